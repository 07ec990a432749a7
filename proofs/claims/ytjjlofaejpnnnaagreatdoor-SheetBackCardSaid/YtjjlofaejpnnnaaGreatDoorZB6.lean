/-
  WALKS: count, rooted of the program.
  WALKS: Check of the program.
  WALKS: index, has of the document; the words for its plain.
  PLAIN MATHEMATICS: places among kids, depths, and what a model is behind a node that is added.
  PLAIN MATHEMATICS: document order.
-/
import Derived.Test.YtjjlofaejpnnnaaGreatDoorZB5
import Derived.Deep.LoopGhost
import Derived.Deep.DeepMust
namespace Go.Proofs.YtjjlofaejpnnnaaGreatDoor
open Go Go.RowKit Go.Sort
set_option linter.unusedVariables false
theorem only_cell {w w' : World} {g : Nat} (h : w.grownBy w' (some g)) {b o : Nat} (hb : b < w.heap.size) (hne : b ≠ g) : w'.cell? ⟨b, o, none⟩ = w.cell? ⟨b, o, none⟩ :=
  World.cell?_of_block (h.block b hb (fun e => hne (by injection e)))
theorem only_set {a w : World} {g : Nat} (h : a.grownBy w (some g)) (i : Nat) (u : Value) : a.grownBy (w.setCell ⟨g, i, none⟩ u) (some g) :=
  ⟨h.os, h.tape, h.output, by simpa [World.setCell] using h.size, fun k hk hne => (Below.heap_setCell w ⟨g, i, none⟩ u k (by rintro rfl; exact hne rfl)).trans (h.block k hk hne)⟩
theorem Below.only {B : Nat} {a w w' : World} (h : Below B a w) {g : Nat} (hg : w.grownBy w' (some g)) (hB : B ≤ w.heap.size) (hBg : B ≤ g) : Below B a w' :=
  h.grown hg hB (fun k hk => by injection hk with hk; omega)
/-- what count answers -/
def Counted (w : World) (g : Nat) (b : Bool) (dl : List Int) (e : Ending) (w' : World) : Prop := e = .returned (.bool b) ∧ IBlk w' g dl ∧ w.grownBy w' (some g)
set_option maxHeartbeats 1600000 in
theorem count_any (w : World) (g h n c L cw : Nat) (dl wl : List Int) (from_ : Int) (hd : IBlk w g dl) (hn : dl.length = n) (hne : h ≠ g) (hh : h < w.heap.size) (hL : wl.length = L) (hL64 : L ≤ 64) (hcw : L ≤ cw) (hcm : cw ≤ maxLen) (hnc : n ≤ c) (hcm' : c ≤ maxLen)
    (hw : ∀ (j : Nat) x, wl[j]? = some x → w.cell? ⟨h, j, none⟩ = some (.int .i64 x) ∧ 0 ≤ x ∧ x < n) (h0 : 0 ≤ from_) (h1 : from_ ≤ 64) :
    Calls Tryz.prog 69 #[.slice (some ⟨g, 0, none⟩) n c, .slice (some ⟨h, 0, none⟩) L cw, .int .i64 from_] w (Counted w g (decide (from_ + L ≤ 64)) (countF (from_ + L) 0 dl wl)) := by
  unfold maxLen at hcm hcm'
  have HN := Lib.hid hn
  have HL := Lib.hid hL
  have HW := Lib.hid hw
  have HD := Lib.hid hd
  clear hn hL hw hd
  go_enter Tryz.func69, Tryz.ntmps69
  go_wp2_with fail
  go_loopw [11] (fun i wr => ∃ (k : Nat) (d : List Int), k ≤ L ∧ i = .int .i64 k ∧ IBlk wr g d ∧ w.grownBy wr (some g) ∧ Hid (countF (from_ + L) 0 dl wl = countF (from_ + L) k d (wl.drop k)) ∧ Hid (d.length = n)) (fun i _ => L - (intOf i).toNat)
  case atStart => exact ⟨0, dl, by omega, rfl, HD.out, World.grownBy.refl _ _, Lib.hid rfl, HN⟩
  case round =>
    obtain ⟨k, d, hk, rfl, hb, hg, HK, HDL⟩ := hrel
    have HB := Lib.hid hb
    have HG := Lib.hid hg
    by_cases hlt : k < L
    · obtain ⟨x, hx⟩ : ∃ x, wl[k]? = some x := ⟨wl[k]'(by have := HL.out; omega), List.getElem?_eq_getElem _⟩
      obtain ⟨q1, q2, q3⟩ := HW.out k x hx
      have hc1 : wr.cell? ⟨h, k, none⟩ = some (.int .i64 x) := (only_cell hg hh hne).trans q1
      obtain ⟨m, rfl⟩ : ∃ m : Nat, x = (m : Int) := ⟨x.toNat, by omega⟩
      have hck := hb.cell (i := m) (by have := HDL.out; omega)
      have hfk := Blk.frozen hb m
      have hwd : wl.drop k = (m : Int) :: wl.drop (k + 1) := by
        obtain ⟨hl', e⟩ := List.getElem?_eq_some_iff.1 hx
        rw [← e]
        exact List.drop_eq_getElem_cons hl'
      have HZ : Hid (countF (from_ + L) 0 dl wl = countF (from_ + L) (k + 1) (d.set m (from_ + L - k)) (wl.drop (k + 1))) := Lib.hid (by rw [HK.out, hwd, countF]; simp)
      clear hx hwd HK q1 hb hg
      go_wp2_with fail
      go_roundw
      case rel => exact ⟨k + 1, _, by omega, by go_num, HB.out.set_ m _, only_set HG.out _ _, HZ, Lib.hid (by rw [List.length_set]; exact HDL.out)⟩
      case measure => simp [intOf]; omega
    · have HZ : Hid (countF (from_ + L) 0 dl wl = d) := Lib.hid (by rw [HK.out, List.drop_eq_nil_of_le (by have := HL.out; omega)]; rfl)
      clear HK hb hg
      go_wp2_with fail
      go_ret
      exact ⟨rfl, by rw [HZ.out]; exact HB.out, HG.out⟩
def nought64 : List Int := List.replicate 64 0
theorem make_ints2 (w : World) :
    (Instr.makeSlice 40 (.int .i64 0) (.int .i64 64)).run Tryz.prog w = .ok (.slice (some ⟨w.heap.size, 0, none⟩) 0 64) (w.alloc (.cells (intCells (nought64)).toArray 3)) := by
  obtain ⟨i, hi, hzz⟩ := Option.map_eq_some_iff.1 intInfo
  simp only [Prod.mk.injEq] at hzz
  obtain ⟨hz, hs, hb⟩ := hzz
  have hr := run_make (P := Tryz.prog) w 40 3 i (.int .i64 0) Tryz.underlying40 hi hz .i64 .i64 0 64 (by omega) (by omega) (by rw [hb]; omega) (by omega)
  unfold nought64
  rw [← made_ints]
  simp only [hs, Nat.mul_one] at hr
  exact hr
/-- the slice of 64 places of which L are filled -/
def WayIn (w : World) (g L : Nat) (wl : List Int) : Prop := w.ownsRow g 3 1 (.slice (some ⟨g, 0, none⟩) L 64) L (intCells wl)
theorem WayIn.zero {w : World} {g L : Nat} {wl : List Int} (h : WayIn w g L wl) : WayIn w g 0 [] := by
  rcases h.2 with ⟨h, _⟩ | ⟨g', cap, cur, e, hb, hg, h1, h2, h3, h4⟩
  · cases h
  · injection e with e1 e2 e3
    injection e1 with e1
    injection e1 with e1
    subst e1 e3
    exact ⟨by simp [intCells], .inr ⟨g, 64, cur, rfl, hb, hg, Nat.zero_le _, h2, h3, by simp [intCells]⟩⟩
theorem WayIn.start (w : World) : WayIn (w.alloc (.cells (intCells (nought64)).toArray 3)) w.heap.size 0 [] :=
  World.ownsRow_made w (intCells nought64).toArray 64 (Nat.le_refl _) (by simp [maxLen]) (by simp [intCells, nought64])
theorem WayIn.cell {w : World} {g L : Nat} {wl : List Int} (h : WayIn w g L wl) {j : Nat} {x : Int} (hx : wl[j]? = some x) : w.cell? ⟨g, j, none⟩ = some (.int .i64 x) := by
  have := World.ownsRow.cells h (g := g) rfl j _ (intCells_get hx)
  rwa [Addr.add_lit, Nat.zero_add] at this
theorem WayIn.len {w : World} {g L : Nat} {wl : List Int} (h : WayIn w g L wl) : wl.length = L := by
  have := h.1; rw [intCells_length] at this; omega
theorem WayIn.lt {w : World} {g L : Nat} {wl : List Int} (h : WayIn w g L wl) : g < w.heap.size := (World.ownsRow.lt h g rfl).2
theorem WayIn.kept {w w' : World} {g L r : Nat} {wl : List Int} (h : WayIn w g L wl) (hg : w.grownBy w' (some r)) (hne : g ≠ r) : WayIn w' g L wl :=
  World.ownsRow.kept h hg (.inr (by simp [Value.ownBlock, hne]))
theorem WayIn.alloc {w : World} {g L : Nat} {wl : List Int} (h : WayIn w g L wl) (o : Obj) : WayIn (w.alloc o) g L wl := World.ownsRow.alloc h o
theorem new_one (w : World) (x : Value) (t : TypeId) : ∀ j u, [x][j]? = some u → (w.alloc (.cells #[x] t)).cell? ((⟨w.heap.size, 0, none⟩ : Addr).add j) = some u := by
  intro j u hj
  match j, hj with
  | 0, hj =>
    obtain rfl : x = u := by simpa using hj
    exact World.cell?_alloc_at (hn := rfl) ..
theorem one_one (k : IntKind) (m : Int) : ∀ u ∈ [Value.int k m], u.oneCell' = true := by
  intro u hu
  obtain rfl : u = .int k m := by simpa using hu
  rfl
/-- what holds in the loops of rooted -/
structure RW (w : World) (n L : Nat) (dl wl : List Int) (wr : World) : Prop where
  deep : IBlk wr w.heap.size dl
  way : WayIn wr (w.heap.size + 1) L wl
  bel : Below w.heap.size w wr
  len : dl.length = n
theorem RW.start {w wr : World} {n L : Nat} {dl wl : List Int} (h : RW w n L dl wl wr) : RW w n 0 dl [] wr := ⟨h.deep, h.way.zero, h.bel, h.len⟩
theorem RW.count {w wr w' : World} {n L : Nat} {dl wl dl' : List Int} (h : RW w n L dl wl wr) (hi : IBlk w' w.heap.size dl') (hg : wr.grownBy w' (some w.heap.size)) (hl : dl'.length = n) : RW w n L dl' wl w' :=
  ⟨hi, h.way.kept hg (by omega), Below.only h.bel hg h.bel.size (Nat.le_refl _), hl⟩
set_option maxHeartbeats 3200000 in
theorem rooted_any (w : World) (hi : Nat) (A : Option Addr) (n c : Nat) (av : List Int) (h : Row w 0 hi 1 A n c (intCells av)) (hh : hi ≤ w.heap.size) (hn : n ≤ 4096) (hl : av.length = n) (hav : ∀ j, j < n → -1 ≤ av.getD j (-1) ∧ av.getD j (-1) < n) :
    Calls Tryz.prog 33 #[.slice A n c] w (Ret w (.bool (rootedB av))) := by
  have hc := h.2.2.1
  have hnc := h.2.1
  have HL := Lib.hid hl
  have HAV := Lib.hid hav
  unfold maxLen at hc
  have hmk := make_ints n (by omega)
  have hmk2 := make_ints2
  have R0 : RW w n 0 (List.replicate n 0) [] ((w.alloc (.cells (intCells (List.replicate n 0)).toArray 3)).alloc (.cells (intCells (nought64)).toArray 3)) :=
    ⟨(Blk.new _ _ _).alloc _, by have := WayIn.start (w.alloc (.cells (intCells (List.replicate n 0)).toArray 3)); simpa using this, (below_box _ _).alloc (by simp) _, by simp⟩
  have HR0 := Lib.hid R0
  have HD0 : Hid (DInv av (List.replicate n 0)) := Lib.hid (by have := DInv.start av; rwa [hl] at this)
  clear R0 hl hav
  go_enter Tryz.func33, Tryz.ntmps33
  go_wp2_with fail
  go_step3
  go_wp2_with fail
  go_step3
  go_wp2_with fail
  clear hmk hmk2
  generalize ((w.alloc (.cells (intCells (List.replicate n 0)).toArray 3)).alloc (.cells (intCells (nought64)).toArray 3)) = W1 at HR0 ⊢
  go_loopg [4, 13] n (fun gk v i wo => ∃ (k L : Nat) (dl wl : List Int), k ≤ n ∧ gk = n - k ∧ i = .int .i64 k ∧ v = .slice (some ⟨w.heap.size + 1, 0, none⟩) L 64 ∧ L ≤ 64 ∧ RW w n L dl wl wo ∧ Hid (DInv av dl) ∧ Hid (∀ j : Nat, j < k → (lvl av 64 j).isSome = true))
  case atStart => exact ⟨0, 0, _, [], by omega, by omega, rfl, rfl, by omega, HR0.out, HD0, Lib.hid (fun j hj => absurd hj (by omega))⟩
  case round =>
    clear HR0 HD0
    obtain ⟨k, L, dl, wl, hk, hgk, rfl, rfl, hL, R, HD, HK⟩ := hrel
    have HR := Lib.hid R.start
    have HGK := Lib.hid hgk
    clear R hgk
    by_cases hlt : k < n
    · go_wp2_with fail
      obtain ⟨wo, rfl⟩ : ∃ wo : World, wo = wr := ⟨_, rfl⟩
      go_loopg [4, 6] 65 (fun gl v x wr => ∃ (M : Nat) (y : Int), M ≤ 64 ∧ Hid (gl = 65 - M) ∧ x = .int .i64 y ∧ v = .slice (some ⟨w.heap.size + 1, 0, none⟩) M 64 ∧ RW w n M dl (chain av k M) wr ∧ Hid (y = up av M k) ∧ Hid (∀ m, m < M → 0 ≤ up av m k ∧ up av m k < n) ∧ -1 ≤ y ∧ y < n)
      case atStart => exact ⟨0, k, by omega, Lib.hid rfl, rfl, rfl, HR.out, Lib.hid rfl, Lib.hid (fun m hm => absurd hm (by omega)), by omega, by omega⟩
      case round =>
        obtain ⟨M, y, hM, HGL, rfl, rfl, R, HY, HUP, hy1, hy2⟩ := hrel
        have HRr := Lib.hid R
        have hzr : w.heap.size + 1 < wr.heap.size := R.way.lt
        have hCN : ∀ (f : Nat), f ≤ 64 → Calls Tryz.prog 69 #[.slice (some ⟨w.heap.size, 0, none⟩) n n, .slice (some ⟨w.heap.size + 1, 0, none⟩) M 64, .int .i64 (f : Int)] wr (Counted wr w.heap.size (decide (f + M ≤ 64)) (countF ((f : Int) + M) 0 dl (chain av k M))) := by
          intro f hf
          have := count_any wr w.heap.size (w.heap.size + 1) n n M 64 dl (chain av k M) f R.deep R.len (by omega) hzr (chain_len av k M) hM hM (by simp [maxLen]) (Nat.le_refl _) (by unfold maxLen; omega) (fun j x hx => by
            obtain ⟨hj, rfl⟩ := chain_get hx
            exact ⟨R.way.cell hx, (HUP.out j hj).1, (HUP.out j hj).2⟩) (by omega) (by omega)
          rwa [show decide ((f : Int) + M ≤ 64) = decide (f + M ≤ 64) from by rw [Bool.eq_iff_iff]; simp; omega] at this
        have HCN := Lib.hid hCN
        clear hCN R
        by_cases hy : y = -1
        · have d1 : (y != -1) = false := by rw [bne_eq_false_iff_eq]; exact hy
          have HE : Hid (∃ f, lvl av f (up av M k) = some 0) := Lib.hid ⟨0, by rw [← HY.out, hy]; exact lvl_end _ _⟩
          have hC0 := HCN.out 0 (by omega)
          have HC0 := Lib.hid hC0
          clear hy hC0
          go_wp2_with (go_at_call 69; refine HC0.out.mono ?_; rintro e w2 ⟨rfl, hib, hg2⟩; have HIB := Lib.hid hib; have HG2 := Lib.hid hg2; clear hib hg2)
          have hD2 : DInv av (countF (((0 : Nat) : Int) + M) 0 dl (chain av k M)) := HD.out.count (d := 0) (fun m hm => (HUP.out m hm).1) HE.out (by omega)
          go_roundg (n - (k + 1))
          case measure => have := HGK.out; omega
          case rel =>
            refine ⟨k + 1, M, _, _, by omega, rfl, by go_num, rfl, hM, HRr.out.count HIB.out HG2.out ?_, Lib.hid hD2, Lib.hid (fun j hj => ?_)⟩
            · rw [countF_len]; exact HRr.out.len
            · by_cases e : j = k
              · subst e
                have := (lvl_chain (fun m hm => by have := HUP.out m hm; omega) HE.out 0 (by omega) 64).1 (by omega)
                have : lvl av 64 (j : Int) = _ := this
                rw [this]; rfl
              · exact HK.out j (by omega)
        · have d1 : (y != -1) = true := by rw [bne_iff_ne]; exact hy
          obtain ⟨m, rfl⟩ : ∃ m : Nat, y = (m : Int) := ⟨y.toNat, by omega⟩
          have hm : m < n := by omega
          obtain ⟨d, hdm, hdl⟩ := HD.out.2 m (by rw [HL.out]; exact hm)
          have hck := HRr.out.deep.cell (i := m) (by rw [HRr.out.len]; exact hm)
          rw [hdm] at hck
          clear hy
          by_cases h0 : 0 < d
          · have hlv : lvl av 64 (m : Int) = some d := by rcases hdl with e | e; (omega); exact e
            have h64 := (lvl_more hlv).1
            have HE : Hid (∃ f, lvl av f (up av M k) = some d) := Lib.hid ⟨64, by rw [← HY.out]; exact hlv⟩
            have HCH := Lib.hid (lvl_chain (fun m hm => by have := HUP.out m hm; omega) HE.out 0 (by omega) 64)
            have HC0 := Lib.hid (HCN.out d h64)
            by_cases hs : d + M ≤ 64
            · rw [decide_eq_true hs] at HC0
              clear hlv hdm hdl
              go_wp2_with (go_at_call 69; refine HC0.out.mono ?_; rintro e w2 ⟨rfl, hib, hg2⟩; have HIB := Lib.hid hib; have HG2 := Lib.hid hg2; clear hib hg2)
              have hD2 : DInv av (countF ((d : Int) + M) 0 dl (chain av k M)) := HD.out.count (fun m hm => (HUP.out m hm).1) HE.out hs
              go_roundg (n - (k + 1))
              case measure => have := HGK.out; omega
              case rel =>
                refine ⟨k + 1, M, _, _, by omega, rfl, by go_num, rfl, hM, HRr.out.count HIB.out HG2.out ?_, Lib.hid hD2, Lib.hid (fun j hj => ?_)⟩
                · rw [countF_len]; exact HRr.out.len
                · by_cases e : j = k
                  · subst e
                    have := HCH.out.1 (by omega)
                    have : lvl av 64 (j : Int) = _ := this
                    rw [this]; rfl
                  · exact HK.out j (by omega)
            · rw [decide_eq_false hs] at HC0
              have HZ : Hid (rootedB av = false) := Lib.hid (by
                unfold rootedB
                rw [List.all_eq_false]
                refine ⟨k, by rw [List.mem_range, HL.out]; exact hlt, ?_⟩
                have := HCH.out.2 (by omega)
                have : lvl av 64 (k : Int) = _ := this
                rw [this]; simp)
              clear hlv hdm hdl
              go_wp2_with (go_at_call 69; refine HC0.out.mono ?_; rintro e w2 ⟨rfl, hib, hg2⟩; have HIB := Lib.hid hib; have HG2 := Lib.hid hg2; clear hib hg2)
              try rw [Exit.noGoto_ret]
              go_ret
              exact ret_b HZ.out rfl (Below.only HRr.out.bel HG2.out (by omega) (Nat.le_refl _))
          · obtain rfl : d = 0 := by omega
            have d2 : decide ((0 : Int) < ((0 : Nat) : Int)) = false := rfl
            by_cases h64 : M = 64
            · have HZ : Hid (rootedB av = false) := Lib.hid (by
                unfold rootedB
                rw [List.all_eq_false]
                refine ⟨k, by rw [List.mem_range, HL.out]; exact hlt, ?_⟩
                have := lvl_long (a := av) (L := 64) (i := k) (fun j hj => by
                  by_cases e : j = 64
                  · subst e; have := HY.out; rw [h64] at this; omega
                  · have := HUP.out j (by omega); omega)
                rw [this]; simp)
              have d3 : ((M : Int) == 64) = true := by rw [beq_iff_eq]; omega
              clear hdm hdl h64
              go_wp2_with fail
              try rw [Exit.noGoto_ret]
              go_ret
              exact ret_b HZ.out rfl HRr.out.bel
            · have d3 : ((M : Int) == 64) = false := by rw [beq_eq_false_iff_ne]; omega
              have hM1 : M + 1 ≤ 64 := by omega
              obtain ⟨b, o, rfl, _, hb, hcells⟩ := h.at_ (by omega)
              have hx : av[m]? = some (av.getD m (-1)) := by
                rw [List.getD_eq_getElem?_getD, List.getElem?_eq_getElem (by rw [HL.out]; exact hm)]; rfl
              have HCW := Lib.hid (hcells m _ (intCells_get hx))
              have HAB := Lib.hid (HAV.out m hm)
              obtain ⟨i0, hi0, hzz⟩ := Option.map_eq_some_iff.1 intInfo
              simp only [Prod.mk.injEq] at hzz
              have HSZ := Lib.hid hzz.2.1
              have HI0 := Lib.hid hi0
              have HWY := Lib.hid HRr.out.way
              obtain ⟨z, hz⟩ : ∃ z, av.getD m (-1) = z := ⟨_, rfl⟩
              rw [hz] at HCW HAB
              have HZD := Lib.hid hz
              clear hzz hi0 hx hz hcells hdm hdl h64
              go_wp2_with (at_builtin; refine wpList_append_fits _ rfl _ _ 40 rfl (w.heap.size + 1) 3 i0 1 Tryz.underlying40 HI0.out HSZ.out (w.heap.size + 1) M 64 (intCells (chain av k M)) rfl (HWY.out.alloc _) ⟨wr.heap.size, 0, none⟩ 1 1 [.int .i64 (m : Int)] rfl rfl (new_one wr _ _) (one_one _ _) (by omega) ?_; intro w2 hown2 hg2; have hbw2 : Below w.heap.size w w2 := Below.only (HRr.out.bel.alloc (by omega) _) hg2 (by simp; omega) (by omega); have hc2 : w2.cell? ⟨b, o + m, none⟩ = some (.int .i64 z) := (hbw2.cell (p := ⟨b, _, none⟩) (Nat.lt_of_lt_of_le hb hh)).trans HCW.out; have HO2 := Lib.hid hown2; have HG2 := Lib.hid hg2; clear hown2 hg2)
              go_roundg (65 - (M + 1))
              case measure => have := HGL.out; omega
              case rel =>
                refine ⟨M + 1, z, by omega, Lib.hid rfl, rfl, rfl, ⟨?_, ?_, hbw2, HRr.out.len⟩, Lib.hid ?_, Lib.hid (fun j hj => ?_), HAB.out.1, HAB.out.2⟩
                · exact (Blk.alloc HRr.out.deep _).grown HG2.out (by simp)
                · have := HO2.out
                  unfold WayIn
                  rw [chain_snoc, ← HY.out]
                  simpa [intCells] using this
                · rw [up_succ, ← HY.out, Int.toNat_natCast]; exact HZD.out.symm
                · by_cases e : j = M
                  · subst e; rw [← HY.out]; omega
                  · exact HUP.out j (by omega)
    · have e : k = n := by omega
      have HZ : Hid (rootedB av = true) := Lib.hid (by
        unfold rootedB
        rw [List.all_eq_true]
        intro j hj
        rw [List.mem_range, HL.out] at hj
        exact HK.out j (by omega))
      clear e
      go_wp2_with fail
      try rw [Exit.noGoto_ret]
      go_ret
      exact ret_b HZ.out rfl HR.out.bel
end Go.Proofs.YtjjlofaejpnnnaaGreatDoor
namespace Go.Proofs.YtjjlofaejpnnnaaGreatDoor
open Go Go.RowKit Go.Sort
set_option linter.unusedVariables false
def checkV (next : Int) (nds : List Nd) : Int := if rightB next nds then 0 else 29
theorem check_no {next : Int} {nds : List Nd} (h : checkB next nds = false) : checkV next nds = 29 := by unfold checkV; rw [← checkB_eq, h]; rfl
theorem check_yes {next : Int} {nds : List Nd} (h : checkB next nds = true) : checkV next nds = 0 := by unfold checkV; rw [← checkB_eq, h]; rfl
theorem numB_facts {next : Int} {nds : List Nd} (h : numB next nds = true) : Rise nds ∧ nds.length ≤ 4096 ∧ 1 ≤ next ∧ next ≤ 1048577 := by
  unfold numB headB at h
  simp only [Bool.and_eq_true, decide_eq_true_eq] at h
  exact ⟨Rise.of h.2, h.1.2, h.1.1.1, h.1.1.2⟩
set_option maxHeartbeats 1600000 in
theorem check_any (w : World) (hi : Nat) (next : Int) (A : Option Addr) (n c : Nat) (nds : List Nd) (h : NodesIn w 0 hi A n c nds) (hh : hi ≤ w.heap.size) :
    Calls Tryz.prog 13 #[.agg #[.int .i64 next, .slice A n c]] w (Ret w (.int .i64 (checkV next nds))) := by
  have hbx := below_box w (mdObj next A n c)
  unfold mdObj at hbx
  have HB := Lib.hid hbx
  have HC : Hid (checkB next nds = (numB next nds && nds.all (speltB next) && (match joinS nds with | none => false | some a => rootedB a))) := Lib.hid rfl
  have HNu := Lib.hid (numbered_any (w.alloc (.cells #[.int .i64 next, .slice A n c] 25)) hi next A n c nds (h.below (hbx.mono hh)) (by simp; omega))
  have HSp : Hid (∀ w2, Below (w.alloc (.cells #[.int .i64 next, .slice A n c] 25)).heap.size (w.alloc (.cells #[.int .i64 next, .slice A n c] 25)) w2 → Calls Tryz.prog 31 #[.agg #[.int .i64 next, .slice A n c]] w2 (Ret w2 (.bool (nds.all (speltB next))))) := Lib.hid (fun w2 hb2 =>
    spelt_any w2 hi next A n c nds ((h.below (hbx.mono hh)).below (hb2.mono (by simp; omega))) (by have := hb2.size; simp at this; omega))
  have HJo : Hid (Rise nds → n ≤ 4096 → ∀ w2, Below (w.alloc (.cells #[.int .i64 next, .slice A n c] 25)).heap.size (w.alloc (.cells #[.int .i64 next, .slice A n c] 25)) w2 → Calls Tryz.prog 32 #[.agg #[.int .i64 next, .slice A n c]] w2 (Joined w2 n (joinS nds))) := Lib.hid (fun hr hn w2 hb2 =>
    joined_any w2 hi next A n c nds ((h.below (hbx.mono hh)).below (hb2.mono (by simp; omega))) (by have := hb2.size; simp at this; omega) hr hn)
  have HL := Lib.hid h.1
  clear hbx
  cases h1 : numB next nds with
  | false =>
    have HX : Hid (checkV next nds = 29) := Lib.hid (check_no (by rw [HC.out, h1]; rfl))
    rw [h1] at HNu
    clear h1 h
    go_enter Tryz.func13, Tryz.ntmps13
    go_wp2_with (go_at_call 30; refine HNu.out.mono ?_; rintro e w2 ⟨rfl, hb2⟩; obtain ⟨q1, q2⟩ := bcell hb2)
    go_ret
    exact ret_i HX.out rfl (HB.out.trans (hb2.mono (by simp)))
  | true =>
    obtain ⟨hr, hn, _, _⟩ := numB_facts h1
    rw [HL.out] at hn
    rw [h1] at HNu
    cases h2 : nds.all (speltB next) with
    | false =>
      have HX : Hid (checkV next nds = 29) := Lib.hid (check_no (by rw [HC.out, h2]; simp))
      rw [h2] at HSp
      clear h1 h2 h hr
      go_enter Tryz.func13, Tryz.ntmps13
      go_wp2_with (first | (go_at_call 30; refine HNu.out.mono ?_; rintro e w2 ⟨rfl, hb2⟩; obtain ⟨q1, q2⟩ := bcell hb2; have HB2 := Lib.hid hb2; have hz2 : w.heap.size < w2.heap.size := Nat.lt_of_lt_of_le (by simp) hb2.size; clear hb2) | (go_at_call 31; go_must (refine (HSp.out w2 HB2.out).mono ?_; rintro e w3 ⟨rfl, hb3⟩; have HB3 := Lib.hid hb3; clear hb3)))
      go_ret
      exact ret_i HX.out rfl (HB.out.trans ((HB2.out.mono (by simp)).trans (HB3.out.mono (by omega))))
    | true =>
      rw [h2] at HSp
      have hJo := HJo.out hr hn
      cases h3 : joinS nds with
      | none =>
        have HX : Hid (checkV next nds = 29) := Lib.hid (check_no (by rw [HC.out, h3]; simp))
        rw [h3] at hJo
        have HJ := Lib.hid hJo
        clear h1 h2 h3 h hr hJo HJo
        go_enter Tryz.func13, Tryz.ntmps13
        go_wp2_with (first | (go_at_call 30; refine HNu.out.mono ?_; rintro e w2 ⟨rfl, hb2⟩; obtain ⟨q1, q2⟩ := bcell hb2; have HB2 := Lib.hid hb2; have hz2 : w.heap.size < w2.heap.size := Nat.lt_of_lt_of_le (by simp) hb2.size; clear hb2) | (go_at_call 31; go_must (refine (HSp.out w2 HB2.out).mono ?_; rintro e w3 ⟨rfl, hb3⟩; obtain ⟨r1, r2⟩ := bcell hb3; have HB3 := Lib.hid (HB2.out.trans (hb3.mono (by simp; omega))); have hz3 := hb3.size; clear hb3)) | (go_at_call 32; refine (HJ.out w3 HB3.out).mono ?_; rintro e w4 ⟨hb4, rfl⟩; have HB4 := Lib.hid hb4; clear hb4))
        go_ret
        exact ret_i HX.out rfl (HB.out.trans ((HB3.out.mono (by simp)).trans (HB4.out.mono (by omega))))
      | some a =>
        rw [h3] at hJo
        have HJ := Lib.hid hJo
        have J := join_of hr h3
        have hav : ∀ j, j < n → -1 ≤ a.getD j (-1) ∧ a.getD j (-1) < n := by
          intro j hj
          have hjl : j < a.length := by rw [J.len, HL.out]; exact hj
          have e : a.getD j (-1) = a.getD j 0 := by rw [List.getD_eq_getElem?_getD, List.getD_eq_getElem?_getD, List.getElem?_eq_getElem hjl]; rfl
          rw [e]
          by_cases hx : a.getD j 0 = -1
          · omega
          · obtain ⟨i, p, h1, _, h2, _⟩ := J.from_ j (nds[j]'(by rw [HL.out]; exact hj)) (List.getElem?_eq_getElem _) hx
            have := (List.getElem?_eq_some_iff.1 h1).1
            rw [HL.out] at this
            omega
        have HAV := Lib.hid hav
        have HR : Hid (∀ (w4 : World) (g : Nat), IBlk w4 g a → a.length = n → Calls Tryz.prog 33 #[.slice (some ⟨g, 0, none⟩) n n] w4 (Ret w4 (.bool (rootedB a)))) := Lib.hid (fun w4 g hg hl => rooted_any w4 w4.heap.size (some ⟨g, 0, none⟩) n n a (hg.row hl (Nat.le_refl _) (by unfold maxLen; omega) (Nat.zero_le _) hg.lt) (Nat.le_refl _) hn hl HAV.out)
        obtain ⟨x, hx⟩ : ∃ x, rootedB a = x := ⟨_, rfl⟩
        rw [hx] at HR
        have HX : Hid (checkV next nds = if x then 0 else 29) := Lib.hid (by
          cases x with
          | false => exact check_no (by rw [HC.out, h3]; simp [hx])
          | true => exact check_yes (by rw [HC.out, h1, h2, h3]; simp [hx]))
        clear h1 h2 h3 h hr hJo HJo hav J hx
        cases x
        all_goals
          go_enter Tryz.func13, Tryz.ntmps13
          go_wp2_with (first | (go_at_call 30; refine HNu.out.mono ?_; rintro e w2 ⟨rfl, hb2⟩; obtain ⟨q1, q2⟩ := bcell hb2; have HB2 := Lib.hid hb2; have hz2 : w.heap.size < w2.heap.size := Nat.lt_of_lt_of_le (by simp) hb2.size; clear hb2) | (go_at_call 31; go_must (refine (HSp.out w2 HB2.out).mono ?_; rintro e w3 ⟨rfl, hb3⟩; obtain ⟨r1, r2⟩ := bcell hb3; have HB3 := Lib.hid (HB2.out.trans (hb3.mono (by simp; omega))); have hz3 := hb3.size; clear hb3)) | (go_at_call 32; refine (HJ.out w3 HB3.out).mono ?_; rintro e w4 ⟨hb4, g, rfl, hg, hl, _⟩; have HB4 := Lib.hid hb4; have HG := Lib.hid hg; have HLL := Lib.hid hl; have hz4 := hb4.size; clear hb4 hg hl) | (go_at_call 33; refine (HR.out w4 g HG.out HLL.out).mono ?_; rintro e w5 ⟨rfl, hb5⟩; have HB5 := Lib.hid hb5; clear hb5))
          go_ret
          exact ret_i HX.out rfl (HB.out.trans ((HB3.out.mono (by simp)).trans ((HB4.out.mono (by omega)).trans (HB5.out.mono (by omega)))))
end Go.Proofs.YtjjlofaejpnnnaaGreatDoor
namespace Go.Proofs.YtjjlofaejpnnnaaGreatDoor
open Go Go.RowKit Go.Sort
set_option linter.unusedVariables false
/-- a block of yes and no -/
def BBlk (w : World) (g : Nat) (a : List Bool) : Prop := Blk w g 4 (a.map Value.bool).toArray
section
variable {w w' : World} {g : Nat} {a : List Bool}
theorem BBlk.cell (h : BBlk w g a) {i : Nat} (hi : i < a.length) : w.cell? ⟨g, i, none⟩ = some (.bool (a.getD i false)) := by
  rw [Blk.cell h]
  simp [hi]
theorem BBlk.set_ (h : BBlk w g a) (i : Nat) (x : Bool) : BBlk (w.setCell ⟨g, i, none⟩ (.bool x)) g (a.set i x) := by
  have := Blk.set_ h i (.bool x)
  unfold BBlk
  have e : ((a.set i x).map Value.bool).toArray = (a.map Value.bool).toArray.setIfInBounds i (.bool x) := by simp [List.map_set]
  rw [e]; exact this
end
def noB (n : Nat) : Array Value := ((List.replicate n false).map Value.bool).toArray
theorem BBlk.start (w : World) (n : Nat) : BBlk (w.alloc (.cells (noB n) 4)) w.heap.size (List.replicate n false) := Blk.new _ _ _
/-- the kids that were met so far are marked -/
def MetOk (nds : List Nd) (n : Nat) (seen : List Int) (mt : List Bool) : Prop := mt.length = n ∧ ∀ k j, ixOf nds k = some j → mt.getD j false = seen.contains k
theorem MetOk.start (nds : List Nd) (n : Nat) : MetOk nds n [] (List.replicate n false) := ⟨by simp, fun k j h => by
  rw [List.getD_eq_getElem?_getD, List.getElem?_replicate]; split <;> simp⟩
theorem MetOk.step {nds : List Nd} {n : Nat} {seen : List Int} {mt : List Bool} (h : MetOk nds n seen mt) {k : Int} {j : Nat} (hj : ixOf nds k = some j) (hn : j < n) : MetOk nds n (k :: seen) (mt.set j true) := by
  refine ⟨by rw [List.length_set]; exact h.1, fun k' j' hj' => ?_⟩
  rw [List.getD_eq_getElem?_getD, List.getElem?_set]
  by_cases e : j = j'
  · subst e
    obtain rfl := ixOf_inj hj hj'
    simp [h.1, hn]
  · rw [if_neg e, ← List.getD_eq_getElem?_getD, h.2 k' j' hj']
    have : k' ≠ k := by rintro rfl; rw [hj] at hj'; injection hj' with hj'; exact e hj'
    simp [this]
/-- the boxes of the document's plain, below: the model, the node -/
structure PW (w : World) (next : Int) (A : Option Addr) (n c : Nat) (nd : Nd) (L : Leaf) (wr : World) : Prop where
  md : Blk wr w.heap.size 25 #[.int .i64 next, .slice A n c]
  nb : Blk wr (w.heap.size + 1) 55 #[.int .i64 nd.id, .string nd.con, .int .i64 nd.par, .string nd.role, .slice L.p.A L.p.n L.p.c, .slice L.k.A L.k.n L.k.c, .slice L.r.A L.r.n L.r.c]
  bel : Below w.heap.size w wr
section
variable {w wr w' : World} {next : Int} {A : Option Addr} {n c : Nat} {nd : Nd} {L : Leaf}
theorem PW.start (w : World) (next : Int) (A : Option Addr) (n c : Nat) (nd : Nd) (L : Leaf) : PW w next A n c nd L ((w.alloc (.cells #[.int .i64 next, .slice A n c] 25)).alloc (.cells #[.int .i64 nd.id, .string nd.con, .int .i64 nd.par, .string nd.role, .slice L.p.A L.p.n L.p.c, .slice L.k.A L.k.n L.k.c, .slice L.r.A L.r.n L.r.c] 55)) :=
  ⟨(Blk.new _ _ _).alloc _, Blk.new' (by simp), (below_box _ _).alloc (by simp) _⟩
theorem PW.after (h : PW w next A n c nd L wr) (hb : Below wr.heap.size wr w') : PW w next A n c nd L w' := ⟨h.md.after hb, h.nb.after hb, h.bel.trans (hb.mono h.bel.size)⟩
theorem PW.drewN (h : PW w next A n c nd L wr) (q : Nat) : PW w next A n c nd L (wr.drewN q) := ⟨h.md, h.nb, below_drewN h.bel q⟩
theorem PW.size (h : PW w next A n c nd L wr) : w.heap.size + 1 < wr.heap.size := h.nb.lt
end
end Go.Proofs.YtjjlofaejpnnnaaGreatDoor
namespace Go.Proofs.YtjjlofaejpnnnaaGreatDoor
open Go Go.RowKit
set_option linter.unusedVariables false
/-- what a right model is -/
structure RightM (next : Int) (nds : List Nd) : Prop where
  rise : Rise nds
  lo : 1 ≤ next
  hi : next ≤ 1048577
  len : nds.length ≤ 4096
  lt : ∀ (i : Nat) nd, nds[i]? = some nd → nd.id < next
  plain : ∀ nd ∈ nds, plainB next nds nd = true
  below : ∀ nd ∈ nds, belowB nds 64 nd = true
theorem rightM {next : Int} {nds : List Nd} (h : rightB next nds = true) : RightM next nds := by
  unfold rightB numB headB at h
  simp only [Bool.and_eq_true, decide_eq_true_eq, List.all_eq_true] at h
  obtain ⟨⟨⟨⟨h1, h2⟩, h3⟩, h4⟩, h5⟩ := h
  exact ⟨Rise.of h4, h1, h2, h3, fun i nd hi => ((idsB_rise (by omega) h4).1 i nd hi).2, fun nd hnd => (h5 nd hnd).1, fun nd hnd => (h5 nd hnd).2⟩
theorem RightM.kids {next : Int} {nds : List Nd} (h : RightM next nds) {nd : Nd} (hnd : nd ∈ nds) : (∀ k ∈ nd.kids, ∃ x, ndOf nds k = some x ∧ x.par = nd.id) ∧ nd.kids.Nodup := by
  have h1 := h.plain nd hnd
  unfold plainB at h1
  simp only [Bool.and_eq_true] at h1
  have h2 := kidsB_spec.1 h1.2
  exact ⟨fun k hk => (h2.1 k hk).1, h2.2⟩
/-- the k-th one up from a node -/
def upI (nds : List Nd) (id : Int) : Nat → Int
  | 0 => id
  | k + 1 => match ndOf nds (upI nds id k) with
    | some nd => nd.par
    | none => 0
/-- so many nodes stand on the way from a node up -/
structure DepthIs (nds : List Nd) (id : Int) (K : Nat) : Prop where
  top : upI nds id K = 0
  way : ∀ k, k < K → upI nds id k ≠ 0 ∧ ∃ nd, ndOf nds (upI nds id k) = some nd
theorem upI_succ {nds : List Nd} {id : Int} {k : Nat} {nd : Nd} (h : ndOf nds (upI nds id k) = some nd) : upI nds id (k + 1) = nd.par := by
  rw [upI, h]
theorem upI_shift {nds : List Nd} {id : Int} {nd : Nd} (h : ndOf nds id = some nd) : ∀ k, upI nds id (k + 1) = upI nds nd.par k
  | 0 => by rw [upI, upI, upI, h]
  | k + 1 => by rw [upI, upI_shift h k, upI]
theorem depth_zero (nds : List Nd) : DepthIs nds 0 0 := ⟨rfl, fun k hk => absurd hk (Nat.not_lt_zero _)⟩
theorem DepthIs.succ {nds : List Nd} {id : Int} {nd : Nd} {K : Nat} (h : DepthIs nds nd.par K) (hnd : ndOf nds id = some nd) (h0 : id ≠ 0) : DepthIs nds id (K + 1) := by
  refine ⟨by rw [upI_shift hnd]; exact h.top, fun k hk => ?_⟩
  cases k with
  | zero => exact ⟨h0, nd, hnd⟩
  | succ k => rw [upI_shift hnd]; exact h.way k (by omega)
theorem DepthIs.eq {nds : List Nd} {id : Int} {K K' : Nat} (h : DepthIs nds id K) (h' : DepthIs nds id K') : K = K' := by
  rcases Nat.lt_trichotomy K K' with k | k | k
  · exact absurd h.top (h'.way K k).1
  · exact k
  · exact absurd h'.top (h.way K' k).1
theorem depth_of {next : Int} {nds : List Nd} (hr : RightM next nds) : ∀ (f : Nat) (nd : Nd), nd ∈ nds → belowB nds f nd = true → ∃ K, 1 ≤ K ∧ K ≤ f ∧ DepthIs nds nd.id K
  | 0, nd, _, h => by simp [belowB] at h
  | f + 1, nd, hm, h => by
    obtain ⟨i, hi⟩ := List.getElem?_of_mem hm
    have hnd := ndOf_is hr.rise hi
    have h0 : nd.id ≠ 0 := by have := hr.rise.pos i nd hi; omega
    rw [belowB] at h
    split at h
    · rename_i hp
      exact ⟨1, by omega, by omega, (show DepthIs nds nd.par 0 from by rw [hp]; exact depth_zero nds).succ hnd h0⟩
    · split at h
      · cases h
      · rename_i p hp
        simp only [Bool.and_eq_true] at h
        obtain ⟨j, _, hj, he⟩ := ndOf_some hp
        obtain ⟨K, h1, h2, h3⟩ := depth_of hr f p (List.mem_of_getElem? hj) h.2
        rw [he] at h3
        exact ⟨K + 1, by omega, by omega, h3.succ hnd h0⟩
/-- how deep a node stands; 0: there is none -/
def depthV (nds : List Nd) (id : Int) : Nat := ((List.range 65).find? (fun k => upI nds id k == 0)).getD 0
theorem DepthIs.val {nds : List Nd} {id : Int} {K : Nat} (h : DepthIs nds id K) (hK : K ≤ 64) : depthV nds id = K := by
  unfold depthV
  have : (List.range 65).find? (fun k => upI nds id k == 0) = some K := by
    rw [List.find?_range_eq_some]
    refine ⟨by simpa using h.top, by simp; omega, fun j hj => ?_⟩
    simpa using (h.way j hj).1
  rw [this]; rfl
theorem RightM.depth {next : Int} {nds : List Nd} (hr : RightM next nds) {id : Int} {nd : Nd} (h : ndOf nds id = some nd) : DepthIs nds id (depthV nds id) ∧ 1 ≤ depthV nds id ∧ depthV nds id ≤ 64 := by
  obtain ⟨i, _, hi, he⟩ := ndOf_some h
  have hm := List.mem_of_getElem? hi
  obtain ⟨K, h1, h2, h3⟩ := depth_of hr 64 nd hm (hr.below nd hm)
  rw [he] at h3
  rw [h3.val h2]
  exact ⟨h3, h1, h2⟩
theorem depth_root {nds : List Nd} : DepthIs nds 0 (depthV nds 0) ∧ depthV nds 0 = 0 := by
  rw [(depth_zero nds).val (by omega)]; exact ⟨depth_zero nds, rfl⟩
end Go.Proofs.YtjjlofaejpnnnaaGreatDoor
namespace Go.Proofs.YtjjlofaejpnnnaaGreatDoor
open Go Go.RowKit
set_option linter.unusedVariables false
def kidsV (nds : List Nd) (x : Int) : List Int := match ndOf nds x with
  | some nd => nd.kids
  | none => []
theorem kidsV_of {nds : List Nd} {x : Int} {nd : Nd} (h : ndOf nds x = some nd) : kidsV nds x = nd.kids := by unfold kidsV; rw [h]
/-- nodes with all that is below them, in document order, each with how deep it stands -/
def pre (nds : List Nd) : Nat → Nat → List Int → List (Int × Nat)
  | 0, _, _ => []
  | f + 1, d, ids => ids.flatMap fun x => (x, d) :: pre nds f (d + 1) (kidsV nds x)
theorem pre_nil (nds : List Nd) (f d : Nat) : pre nds f d [] = [] := by cases f <;> simp [pre]
theorem pre_cons (nds : List Nd) (f d : Nat) (x : Int) (r : List Int) : pre nds (f + 1) d (x :: r) = ((x, d) :: pre nds f (d + 1) (kidsV nds x)) ++ pre nds (f + 1) d r := by
  simp only [pre, List.flatMap_cons]
theorem pre_append (nds : List Nd) (f d : Nat) (a b : List Int) : pre nds f d (a ++ b) = pre nds f d a ++ pre nds f d b := by
  cases f <;> simp [pre]
/-- all of them are nodes that stand so deep -/
def AtD (nds : List Nd) (D : Nat) (ids : List Int) : Prop := ∀ x ∈ ids, (∃ nd, ndOf nds x = some nd) ∧ depthV nds x = D
section
variable {next : Int} {nds : List Nd}
theorem kid_depth (hr : RightM next nds) {x k : Int} {nd : Nd} (hx : ndOf nds x = some nd) (hk : k ∈ nd.kids) : ∃ y, ndOf nds k = some y ∧ y.par = x ∧ depthV nds k = depthV nds x + 1 := by
  obtain ⟨i, _, hi, he⟩ := ndOf_some hx
  obtain ⟨y, hy, hp⟩ := (hr.kids (List.mem_of_getElem? hi)).1 k hk
  rw [he] at hp
  obtain ⟨j, _, hj, hje⟩ := ndOf_some hy
  have h0 : k ≠ 0 := by have := hr.rise.pos j y hj; omega
  have h1 := (show DepthIs nds y.par (depthV nds x) from by rw [hp]; exact (hr.depth hx).1).succ hy h0
  exact ⟨y, hy, hp, (hr.depth hy).1.eq h1⟩
theorem AtD.kids (hr : RightM next nds) {D : Nat} {x : Int} (h : (∃ nd, ndOf nds x = some nd) ∧ depthV nds x = D) : AtD nds (D + 1) (kidsV nds x) := by
  obtain ⟨⟨nd, hx⟩, hd⟩ := h
  rw [kidsV_of hx]
  intro k hk
  obtain ⟨y, h1, _, h2⟩ := kid_depth hr hx hk
  exact ⟨⟨y, h1⟩, by omega⟩
theorem AtD.le (hr : RightM next nds) {D : Nat} {ids : List Int} (h : AtD nds D ids) (h0 : 65 ≤ D) : ids = [] := by
  cases ids with
  | nil => rfl
  | cons x r =>
    obtain ⟨⟨nd, hx⟩, hd⟩ := h x (by simp)
    have := (hr.depth hx).2.2
    omega
theorem pre_mem (hr : RightM next nds) : ∀ (f d D : Nat) (ids : List Int), AtD nds D ids → ∀ p ∈ pre nds f d ids, (∃ nd, ndOf nds p.1 = some nd) ∧ d ≤ p.2 ∧ depthV nds p.1 + d = D + p.2 ∧ upI nds p.1 (p.2 - d) ∈ ids
  | 0, d, D, ids, h, p, hp => by simp [pre] at hp
  | f + 1, d, D, ids, h, p, hp => by
    simp only [pre, List.mem_flatMap, List.mem_cons] at hp
    obtain ⟨x, hx, rfl | hp⟩ := hp
    · exact ⟨(h x hx).1, Nat.le_refl _, by have := (h x hx).2; simp only; omega, by rw [show (x, d).2 - d = 0 from by simp, upI]; exact hx⟩
    · obtain ⟨h1, h2, h3, h4⟩ := pre_mem hr f (d + 1) (D + 1) _ (AtD.kids hr (h x hx)) p hp
      refine ⟨h1, by omega, by omega, ?_⟩
      obtain ⟨nd, hnd⟩ := (h x hx).1
      rw [kidsV_of hnd] at h4
      obtain ⟨y, hy, hyp, _⟩ := kid_depth hr hnd h4
      rw [show p.2 - d = (p.2 - (d + 1)) + 1 from by omega, upI_succ hy, hyp]
      exact hx
theorem pre_nodup (hr : RightM next nds) : ∀ (f d D : Nat) (ids : List Int), ids.Nodup → AtD nds D ids → ((pre nds f d ids).map (·.1)).Nodup
  | 0, d, D, ids, _, _ => by simp [pre]
  | f + 1, d, D, [], _, _ => by rw [pre_nil]; simp
  | f + 1, d, D, x :: r, hn, h => by
    have hx := h x (by simp)
    have hrD : AtD nds D r := fun y hy => h y (by simp [hy])
    rw [pre_cons, List.map_append, List.nodup_append]
    refine ⟨?_, pre_nodup hr (f + 1) d D r (List.nodup_cons.1 hn).2 hrD, ?_⟩
    · rw [List.map_cons, List.nodup_cons]
      refine ⟨?_, ?_⟩
      · intro hm
        obtain ⟨p, hp, he⟩ := List.mem_map.1 hm
        obtain ⟨_, h2, h3, _⟩ := pre_mem hr f (d + 1) (D + 1) _ (AtD.kids hr hx) p hp
        have h4 := hx.2
        rw [he] at h3
        simp only at h3
        omega
      · obtain ⟨nd, hnd⟩ := hx.1
        refine pre_nodup hr f (d + 1) (D + 1) _ ?_ (AtD.kids hr hx)
        rw [kidsV_of hnd]
        obtain ⟨i, _, hi, _⟩ := ndOf_some hnd
        exact (hr.kids (List.mem_of_getElem? hi)).2
    · intro a ha b hb hab
      obtain ⟨p, hp, rfl⟩ := List.mem_map.1 ha
      obtain ⟨q, hq, rfl⟩ := List.mem_map.1 hb
      have hp' : p ∈ pre nds (f + 1) d [x] := by rw [pre_cons, pre_nil, List.append_nil]; exact hp
      obtain ⟨_, p2, p3, p4⟩ := pre_mem hr (f + 1) d D [x] (fun y hy => by rw [List.mem_singleton.1 hy]; exact hx) p hp'
      obtain ⟨_, q2, q3, q4⟩ := pre_mem hr (f + 1) d D r hrD q hq
      rw [← hab] at q3 q4
      have e : q.2 = p.2 := by omega
      rw [e, List.mem_singleton.1 p4] at q4
      exact (List.nodup_cons.1 hn).1 q4
termination_by f _ _ ids => (f, ids.length)
theorem pre_len (hr : RightM next nds) {f d D : Nat} {ids : List Int} (hn : ids.Nodup) (h : AtD nds D ids) : (pre nds f d ids).length ≤ nds.length := by
  have h1 := nodup_le (m := nds.map (·.id)) (pre_nodup hr f d D ids hn h) (fun x hx => by
    obtain ⟨p, hp, rfl⟩ := List.mem_map.1 hx
    obtain ⟨nd, hnd⟩ := (pre_mem hr f d D ids h p hp).1
    obtain ⟨i, _, hi, he⟩ := ndOf_some hnd
    exact List.mem_map.2 ⟨nd, List.mem_of_getElem? hi, he⟩)
  rwa [List.length_map, List.length_map] at h1
/-- the same without how deep they stand -/
def pl (nds : List Nd) : Nat → List Int → List Int
  | 0, _ => []
  | f + 1, ids => ids.flatMap fun x => x :: pl nds f (kidsV nds x)
theorem pre_pl : ∀ (f d : Nat) (ids : List Int), (pre nds f d ids).map (·.1) = pl nds f ids
  | 0, d, ids => rfl
  | f + 1, d, ids => by
    simp only [pre, pl, List.map_flatMap, List.map_cons]
    congr 1
    funext x
    rw [pre_pl f]
/-- a node and all below it, in document order -/
def preI (nds : List Nd) (x : Int) : List Int := pl nds (65 - depthV nds x) [x]
theorem depthV_le (nds : List Nd) (x : Int) : depthV nds x ≤ 64 := by
  unfold depthV
  cases h : (List.range 65).find? (fun k => upI nds x k == 0) with
  | none => simp
  | some k =>
    have := List.mem_of_find?_eq_some h
    simp at this ⊢
    omega
theorem preI_cons (nds : List Nd) (x : Int) : ∃ r, preI nds x = x :: r := by
  unfold preI
  have := depthV_le nds x
  rw [show 65 - depthV nds x = (64 - depthV nds x) + 1 from by omega]
  exact ⟨pl nds (64 - depthV nds x) (kidsV nds x), by simp [pl]⟩
theorem pl_flat (hr : RightM next nds) : ∀ (f D : Nat) (ids : List Int), f + D = 65 → AtD nds D ids → pl nds f ids = ids.flatMap (preI nds)
  | 0, D, ids, he, h => by rw [h.le hr (by omega)]; rfl
  | f + 1, D, ids, he, h => by
    rw [pl]
    have : ∀ x ∈ ids, (x :: pl nds f (kidsV nds x)) = preI nds x := fun x hx => by
      unfold preI
      rw [(h x hx).2, show 65 - D = f + 1 from by omega]
      simp [pl]
    clear he h
    induction ids with
    | nil => rfl
    | cons y r ih =>
      rw [List.flatMap_cons, List.flatMap_cons, this y (by simp), ih fun x hx => this x (by simp [hx])]
theorem preI_eq (hr : RightM next nds) {x : Int} {nd : Nd} (hx : ndOf nds x = some nd) : preI nds x = x :: nd.kids.flatMap (preI nds) := by
  have hd := hr.depth hx
  have hk := AtD.kids hr (x := x) ⟨⟨nd, hx⟩, rfl⟩
  rw [kidsV_of hx] at hk
  rw [← pl_flat hr (64 - depthV nds x) _ nd.kids (by omega) hk]
  unfold preI
  rw [show 65 - depthV nds x = (64 - depthV nds x) + 1 from by omega]
  simp [pl, kidsV_of hx]
/-- the roots -/
def rootsV (nds : List Nd) : List Int := (nds.filter (fun nd => nd.par == 0)).map (·.id)
theorem roots_at (hr : RightM next nds) : AtD nds 1 (rootsV nds) := by
  intro x hx
  obtain ⟨nd, hnd, rfl⟩ := List.mem_map.1 hx
  obtain ⟨h1, h2⟩ := List.mem_filter.1 hnd
  obtain ⟨i, hi⟩ := List.getElem?_of_mem h1
  have hnd := ndOf_is hr.rise hi
  have h0 : nd.id ≠ 0 := by have := hr.rise.pos i nd hi; omega
  have h3 := (show DepthIs nds nd.par 0 from by rw [show nd.par = 0 from by simpa using h2]; exact depth_zero nds).succ hnd h0
  exact ⟨⟨nd, hnd⟩, (hr.depth hnd).1.eq h3⟩
theorem ids_nodup (hr : Rise nds) : (nds.map (·.id)).Nodup := by
  rw [List.nodup_iff_pairwise_ne, List.pairwise_iff_getElem]
  intro i j hi hj hij e
  rw [List.getElem_map, List.getElem_map] at e
  rw [List.length_map] at hi hj
  have := hr.inj (List.getElem?_eq_getElem hi) (List.getElem?_eq_getElem hj) e
  omega
theorem roots_nodup (hr : Rise nds) : (rootsV nds).Nodup := by
  unfold rootsV
  exact List.Sublist.nodup (List.Sublist.map _ List.filter_sublist) (ids_nodup hr)
/-- document order -/
def orderV (nds : List Nd) : List Int := (rootsV nds).flatMap (preI nds)
theorem order_pre (hr : RightM next nds) : (pre nds 64 1 (rootsV nds)).map (·.1) = orderV nds := by
  rw [pre_pl, pl_flat hr 64 1 _ (by omega) (roots_at hr)]
  rfl
theorem order_len (hr : RightM next nds) : (orderV nds).length ≤ nds.length := by
  rw [← order_pre hr, List.length_map]
  exact pre_len hr (roots_nodup hr.rise) (roots_at hr)
end
end Go.Proofs.YtjjlofaejpnnnaaGreatDoor

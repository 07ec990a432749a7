/-
  PLAIN LISTS: the search over all 256 forms finds what the two digits' reading finds. No program stands in it.
  WALKS over package sheet: a node and all below it (the closure of Print).
  WALKS over package sheet: Print.
-/
import Derived.Test.YtjjlofaejpnnnaaGreatDoorZB17
import Derived.Laws.EntriesVeiled
namespace Go.Proofs.YtjjlofaejpnnnaaGreatDoor
open Go
set_option linter.unusedVariables false
def digL : List UInt8 → Option Nat
  | [] => none
  | x :: _ => if hexIx x < 0 then none else some (hexIx x).toNat
def numL (t : List UInt8) : Nat × Option Nat :=
  match digL t with
  | none => (0, none)
  | some h => if numBQ (16 * h + 15) then
      match digL t.tail with
      | none => (1, none)
      | some l => if numBQ (16 * h + l) then (2, some (16 * h + l)) else (1, none)
    else (0, none)
def escL : List UInt8 → Nat × Option Nat
  | [] => (0, none)
  | x :: t =>
    if x.toNat = 34 ∨ x.toNat = 92 then (1, some x.toNat)
    else if x.toNat = 110 then (1, some 10)
    else if x.toNat = 120 then (1 + (numL t).1, (numL t).2)
    else (0, none)
def stepL : List UInt8 → Nat × Option Nat
  | [] => (0, none)
  | x :: t =>
    if x.toNat = 92 then (1 + (escL t).1, (escL t).2)
    else if numBQ (x.toNat : Int) = true ∨ x.toNat = 10 then (0, none)
    else (1, some x.toNat)
theorem drop_get (s : ByteArray) (k : Nat) (h : k < s.size) : s.data.toList.drop k = s[k] :: s.data.toList.drop (k + 1) := by
  rw [List.drop_eq_getElem_cons (by simpa using h)]; rfl
theorem drop_none (s : ByteArray) (k : Nat) (h : ¬ k < s.size) : s.data.toList.drop k = [] :=
  List.drop_eq_nil_of_le (by rw [Array.length_toList]; exact Nat.le_of_not_lt h)
theorem digS_eq (s : ByteArray) (k : Nat) : digS s k = digL (s.data.toList.drop k) := by
  unfold digS
  split
  · rename_i h; rw [drop_get s k h]; rfl
  · rename_i h; rw [drop_none s k h]; rfl
theorem stepNum_eq (s : ByteArray) (k : Nat) : stepNum s k = numL (s.data.toList.drop k) := by
  unfold stepNum numL
  rw [digS_eq, digS_eq, List.tail_drop]
  cases digL (s.data.toList.drop k) <;> rfl
theorem stepEsc_eq (s : ByteArray) (k : Nat) : stepEsc s k = escL (s.data.toList.drop k) := by
  unfold stepEsc
  split
  · rename_i h; rw [drop_get s k h, escL, stepNum_eq]
  · rename_i h; rw [drop_none s k h]; rfl
theorem stepAt_eq (s : ByteArray) (k : Nat) (h : k < s.size) : stepAt s k h = stepL (s.data.toList.drop k) := by
  unfold stepAt
  rw [drop_get s k h, stepL, stepEsc_eq]
theorem hexIx_of (h : Nat) (a : h < 16) : hexIx (hexOf h) = h := by
  have : ∀ h : Fin 16, hexIx (hexOf h.val) = h.val := by decide +kernel
  exact this ⟨h, a⟩
theorem hexOf_ix (x : UInt8) : 0 ≤ hexIx x → x = hexOf (hexIx x).toNat := by
  revert x; apply all256; decide +kernel
theorem digL_of (h : Nat) (a : h < 16) (t : List UInt8) : digL (hexOf h :: t) = some h := by
  simp only [digL]; rw [hexIx_of h a, if_neg (by omega)]; simp
theorem digL_some {t : List UInt8} {h : Nat} (e : digL t = some h) : h < 16 ∧ ∃ r, t = hexOf h :: r := by
  cases t with
  | nil => simp [digL] at e
  | cons x r =>
    simp only [digL] at e
    by_cases hx : hexIx x < 0
    · rw [if_pos hx] at e; cases e
    · rw [if_neg hx] at e
      have e' := Option.some.inj e
      have := hexIx_lt x
      exact ⟨by omega, r, by rw [hexOf_ix x (by omega), e']⟩
theorem num_15 (c : UInt8) : numBQ (c.toNat : Int) = true → numBQ (16 * ((c.toNat / 16 : Nat) : Int) + 15) = true := by
  revert c; apply all256; decide +kernel
theorem num_qr (c : UInt8) : 16 * ((c.toNat / 16 : Nat) : Int) + ((c.toNat % 16 : Nat) : Int) = c.toNat := by omega
/-- the forms, case by case -/
theorem form_cases (c : UInt8) : ((c.toNat = 34 ∨ c.toNat = 92) ∧ form c = [92, c]) ∨ (c.toNat = 10 ∧ form c = [92, 110]) ∨
    (numBQ (c.toNat : Int) = true ∧ form c = [92, 120, hexOf (c.toNat / 16), hexOf (c.toNat % 16)]) ∨ (c.toNat ≠ 34 ∧ c.toNat ≠ 92 ∧ c.toNat ≠ 10 ∧ numBQ (c.toNat : Int) = false ∧ form c = [c]) := by
  unfold form
  split
  · exact .inl ⟨by assumption, rfl⟩
  · split
    · exact .inr (.inl ⟨by assumption, rfl⟩)
    · split
      · exact .inr (.inr (.inl ⟨by assumption, rfl⟩))
      · rename_i h1 h2 h3
        exact .inr (.inr (.inr ⟨by omega, by omega, h2, by simpa using h3, rfl⟩))
/-- A FORM THAT STANDS THERE is what is read. -/
theorem step_of_form (c : UInt8) (t : List UInt8) : stepL (form c ++ t) = ((form c).length, some c.toNat) := by
  rcases form_cases c with ⟨h, e⟩ | ⟨h, e⟩ | ⟨h, e⟩ | ⟨h1, h2, h3, h4, e⟩
  · rw [e]
    show stepL (92 :: c :: t) = _
    simp [stepL, escL, h]
  · rw [e]
    show stepL (92 :: 110 :: t) = _
    simp [stepL, escL, h]
  · rw [e]
    show stepL (92 :: 120 :: hexOf (c.toNat / 16) :: hexOf (c.toNat % 16) :: t) = _
    have hc := c.toNat_lt
    have n15 := num_15 c h
    have nqr := num_qr c
    have hn : numL (hexOf (c.toNat / 16) :: hexOf (c.toNat % 16) :: t) = (2, some c.toNat) := by
      unfold numL
      rw [digL_of _ (by omega)]
      simp only [List.tail_cons]
      rw [digL_of _ (by omega)]
      simp only
      rw [if_pos n15, nqr, if_pos h]
      congr 2
      omega
    simp [stepL, escL, hn]
  · rw [e]
    show stepL (c :: t) = _
    simp [stepL, h2, h3, h4]
/-- WHAT IS READ is a form that stands there. -/
theorem form_of_step {r : List UInt8} {n b : Nat} (hq : ∀ x t, r = x :: t → x.toNat ≠ 34) (h : stepL r = (n, some b)) : ∃ t, r = form (UInt8.ofNat b) ++ t := by
  cases r with
  | nil => simp [stepL] at h
  | cons x t =>
    simp only [stepL] at h
    split at h
    · rename_i hx
      obtain rfl : x = 92 := UInt8.toNat_inj.1 hx
      cases t with
      | nil => simp [escL] at h
      | cons y u =>
        simp only [escL] at h
        split at h
        · rename_i hy
          simp only [Prod.mk.injEq, Option.some.injEq] at h
          obtain ⟨_, rfl⟩ := h
          refine ⟨u, ?_⟩
          have : UInt8.ofNat y.toNat = y := by simp
          rw [this]; unfold form; rw [if_pos hy]; rfl
        · split at h
          · rename_i hy
            obtain rfl : y = 110 := UInt8.toNat_inj.1 hy
            simp only [Prod.mk.injEq, Option.some.injEq] at h
            obtain ⟨_, rfl⟩ := h
            exact ⟨u, rfl⟩
          · split at h
            · rename_i hy
              obtain rfl : y = 120 := UInt8.toNat_inj.1 hy
              simp only [Prod.mk.injEq] at h
              obtain ⟨_, h⟩ := h
              unfold numL at h
              cases h1 : digL u with
              | none => rw [h1] at h; simp at h
              | some a =>
                rw [h1] at h
                obtain ⟨ha, v, rfl⟩ := digL_some h1
                simp only [List.tail_cons] at h
                split at h
                · cases h2 : digL v with
                  | none => rw [h2] at h; simp at h
                  | some l =>
                    rw [h2] at h
                    obtain ⟨hl, z, rfl⟩ := digL_some h2
                    simp only at h
                    split at h
                    · rename_i hnum
                      simp only [Option.some.injEq] at h
                      subst h
                      refine ⟨z, ?_⟩
                      have e1 : (UInt8.ofNat (16 * a + l)).toNat = 16 * a + l := by simp; omega
                      have hn : numBQ ((UInt8.ofNat (16 * a + l)).toNat : Int) = true := by rw [e1]; simpa using hnum
                      rcases form_cases (UInt8.ofNat (16 * a + l)) with ⟨h, e⟩ | ⟨h, e⟩ | ⟨h, e⟩ | ⟨k1, k2, k3, k4, e⟩
                      · exfalso; rw [e1] at h hn; rcases h with h | h <;> (rw [h] at hn; revert hn; decide)
                      · exfalso; rw [e1] at h hn; rw [h] at hn; revert hn; decide
                      · rw [e, e1]
                        have q : (16 * a + l) / 16 = a := by omega
                        have r : (16 * a + l) % 16 = l := by omega
                        rw [q, r]; rfl
                      · rw [k4] at hn; cases hn
                    · simp at h
                · simp at h
            · simp at h
    · split at h
      · simp at h
      · rename_i h1 h2
        simp only [Prod.mk.injEq, Option.some.injEq] at h
        obtain ⟨_, rfl⟩ := h
        have e : UInt8.ofNat x.toNat = x := by simp
        rw [e]
        rcases form_cases x with ⟨h, e⟩ | ⟨h, e⟩ | ⟨h, e⟩ | ⟨k1, k2, k3, k4, e⟩
        · exact absurd h (by rintro (h | h); exact hq x t rfl h; exact h1 h)
        · exact absurd (Or.inr h) h2
        · exact absurd (Or.inl h) h2
        · exact ⟨t, by rw [e]; rfl⟩
end Go.Proofs.YtjjlofaejpnnnaaGreatDoor
namespace Go.Proofs.YtjjlofaejpnnnaaGreatDoor
open Go Go.RowKit
set_option linter.unusedVariables false
/-- where Print's closure works: the model's box, the nodes, the closure's own box -/
structure DE (X0 : World) (gp B gm gd hi : Nat) (next : Int) (b0 o0 n c : Nat) (nds : List Nd) (V : Nat → Leaf) : Prop where
  nodes : NodesIn X0 0 hi (some ⟨b0, o0, none⟩) n c nds
  at_ : ∀ i nd, nds[i]? = some nd → NodeAt X0 b0 (o0 + i * 7) nd (V i) ∧ LeafIn X0 0 hi nd (V i)
  b0h : b0 < hi
  hh : hi ≤ gp
  gpB : gp < B
  hB : B ≤ X0.heap.size
  m : Blk X0 gm 25 #[.int .i64 next, .slice (some ⟨b0, o0, none⟩) n c]
  gmne : gm ≠ gp
  d : Blk X0 gd 68 #[.func (.func 26) #[] #[.pointer (some ⟨gp, 0, none⟩), .pointer (some ⟨gd, 0, none⟩), .pointer (some ⟨gm, 0, none⟩)]]
  gdne : gd ≠ gp
  right : RightM next nds
  ok : ∀ nd ∈ nds, NdOk nd
  tab : TabEnv X0
  tgt : 5 < gp
theorem WrP.from {gp B : Nat} {X0 X Y : World} {L L' : List UInt8} (h : WrP gp B X0 L X) (h' : WrP gp B X L' Y) : WrP gp B X0 L' Y := ⟨h'.p, h.k.trans h'.k⟩
set_option maxRecDepth 20000 in
set_option maxHeartbeats 6400000 in
theorem down_node {X0 : World} {gp B gm gd hi : Nat} {next : Int} {b0 o0 n c : Nat} {nds : List Nd} {V : Nat → Leaf} (E : DE X0 gp B gm gd hi next b0 o0 n c nds V) (f d : Nat) (hd1 : 1 ≤ d) (hd : d ≤ 64) (i : Nat) (nd : Nd) (hnd : nds[i]? = some nd)
    (HREC : ∀ (k : Int) (iy : Nat) (y : Nd) (X : World) (L : List UInt8), k ∈ nd.kids → nds[iy]? = some y → y.id = k → WrP gp B X0 L X →
      Calls Tryz.prog 26 #[.pointer (some ⟨b0, o0 + iy * 7, none⟩), .int .i64 ((d : Int) + 1), .pointer (some ⟨gp, 0, none⟩), .pointer (some ⟨gd, 0, none⟩), .pointer (some ⟨gm, 0, none⟩)] X fun e Y => e = .returned (.tuple #[]) ∧ WrP gp B X0 (pageV L ((pre nds f (d + 1) [k]).flatMap (nodeT nds))) Y)
    (X : World) (L : List UInt8) (hW : WrP gp B X0 L X) :
    Calls Tryz.prog 26 #[.pointer (some ⟨b0, o0 + i * 7, none⟩), .int .i64 d, .pointer (some ⟨gp, 0, none⟩), .pointer (some ⟨gd, 0, none⟩), .pointer (some ⟨gm, 0, none⟩)] X fun e Y => e = .returned (.tuple #[]) ∧ WrP gp B X0 (pageV L (nodeL nd d ++ (pre nds f (d + 1) nd.kids).flatMap (nodeT nds))) Y := by
  have HE := Lib.hid E
  have HW := Lib.hid hW
  have HND := Lib.hid hnd
  have HR := Lib.hid HREC
  have hgB := E.gpB
  have hhi := E.hh
  have hb0 := E.b0h
  have hB0 := E.hB
  have HLOW : Hid (∀ Y, KeepP gp B X0 Y → Below gp X0 Y) := Lib.hid fun Y hY => hY.below (by omega) (by omega)
  have HAT : Hid (∀ Y, KeepP gp B X0 Y → NodeAt Y b0 (o0 + i * 7) nd (V i) ∧ LeafIn Y 0 hi nd (V i)) := Lib.hid fun Y hY => ⟨(HE.out.at_ i nd HND.out).1.below (HLOW.out Y hY) (by omega), (HE.out.at_ i nd HND.out).2.below ((HLOW.out Y hY).mono hhi)⟩
  have HPN := Lib.hid (nodeLines_any X gp B L hi b0 (o0 + i * 7) d nd (V i) hW.p (HAT.out X hW.k).1 (HAT.out X hW.k).2 hb0 hhi hd1 hd (E.ok nd (List.mem_of_getElem? hnd)) (tab_keep E.tab (HLOW.out X hW.k) E.tgt) E.tgt)
  have hnk : (V i).k.n = nd.kids.length := (E.at_ i nd hnd).2.kn
  have hmk : (V i).k.n ≤ maxLen := Nat.le_trans (E.at_ i nd hnd).2.k.2.1 (E.at_ i nd hnd).2.k.2.2.1
  unfold maxLen at hmk
  generalize V i = F at HAT HPN hnk hmk
  obtain ⟨⟨Ap, np, cp⟩, ⟨Ak, nk, ck⟩, ⟨Ar, nr, cr⟩⟩ := F
  simp only at hnk hmk
  have hwr : IntKind.i64.wrap ((d : Int) + 1) = (d : Int) + 1 := by
    have h2 : (d : Int) ≤ 64 := by omega
    unfold IntKind.wrap
    simp [IntKind.bits, IntKind.signed]
    omega
  clear E hW hnd HREC
  go_enter Tryz.func26, Tryz.ntmps26
  go_wp2_with (go_at_call 27; refine HPN.out.mono ?_; rintro e Z ⟨rfl, hwz⟩; have HWZ := Lib.hid (HW.out.from hwz); have c5 := (HAT.out Z HWZ.out.k).1.c5; clear hwz)
  go_loopw [17] (fun v wr => ∃ j : Nat, j ≤ nk ∧ v = .int .i64 j ∧ Hid (WrP gp B X0 (pageV L (nodeL nd d ++ (pre nds f (d + 1) (nd.kids.take j)).flatMap (nodeT nds))) wr)) (fun v _ => nk - (intOf v).toNat)
  case atStart => exact ⟨0, Nat.zero_le _, rfl, Lib.hid (by rw [List.take_zero, pre_nil, List.flatMap_nil, List.append_nil]; exact HWZ.out)⟩
  case round =>
    clear c5
    rename World => wr
    obtain ⟨j, hj, rfl, HWr⟩ := hrel
    by_cases hjn : j < nk
    · obtain ⟨k, hk⟩ : ∃ k, nd.kids[j]? = some k := ⟨nd.kids[j]'(by omega), List.getElem?_eq_getElem _⟩
      obtain ⟨bk, ok_, hAk, _, hbk, hck⟩ := (HAT.out wr HWr.out.k).2.k.at_ (show 0 < nk by omega)
      simp only at hAk
      subst hAk
      have q0 := hck j _ (intCells_get hk)
      have HTK : Hid ((pre nds f (d + 1) (nd.kids.take (j + 1))).flatMap (nodeT nds) = (pre nds f (d + 1) (nd.kids.take j)).flatMap (nodeT nds) ++ (pre nds f (d + 1) [k]).flatMap (nodeT nds)) := Lib.hid (by
        rw [List.take_add_one, hk, Option.toList_some, pre_append, List.flatMap_append])
      obtain ⟨y, hy, _, _⟩ := kid_depth HE.out.right (ndOf_is HE.out.right.rise HND.out) (List.mem_of_getElem? hk)
      obtain ⟨iy, _, hiy, hyk⟩ := ndOf_some hy
      have HKM := Lib.hid (List.mem_of_getElem? hk)
      have HIY := Lib.hid hiy
      have HYK := Lib.hid hyk
      have hsz : B ≤ wr.heap.size := by obtain ⟨v, hv⟩ := HWr.out.p; exact hv.sz
      have hn4 : n ≤ 4096 := by rw [← HE.out.nodes.1]; exact HE.out.right.len
      have HSN : Hid (Calls Tryz.prog 28 #[.agg #[.int .i64 next, .slice (some ⟨b0, o0, none⟩) n c], .int .i64 k] wr.drew fun e w' => e = .returned (.pointer (some ⟨b0, o0 + iy * 7, none⟩)) ∧ Below wr.heap.size wr w') := Lib.hid
        ((snode_any wr.drew hi next k (some ⟨b0, o0, none⟩) n c nds (HE.out.nodes.below (((HLOW.out wr HWr.out.k).trans ((below_drew1' wr).mono (by omega))).mono hhi)) (by have := (below_drew1' wr).size; omega) HE.out.right.rise hn4 iy y HIY.out HYK.out b0 o0 rfl).mono fun e w' he => ⟨he.1, (below_drew1' wr).trans (he.2.mono (below_drew1' wr).size)⟩)
      have HC4 : Hid (∀ Y, Below wr.heap.size wr Y → Y.cell? ⟨gd, 0, none⟩ = some (.func (.func 26) #[] #[.pointer (some ⟨gp, 0, none⟩), .pointer (some ⟨gd, 0, none⟩), .pointer (some ⟨gm, 0, none⟩)]) ∧ Y.cell? ⟨gm, 0, none⟩ = some (.int .i64 next) ∧ Y.cell? ⟨gm, 1, none⟩ = some (.slice (some ⟨b0, o0, none⟩) n c)) := Lib.hid fun Y hY =>
        ⟨((((HWr.out.k.blk HE.out.d HE.out.gdne).after hY).cell 0)).trans rfl, ((((HWr.out.k.blk HE.out.m HE.out.gmne).after hY).cell 0)).trans rfl, ((((HWr.out.k.blk HE.out.m HE.out.gmne).after hY).cell 1)).trans rfl⟩
      have HRC : Hid (∀ Y, Below wr.heap.size wr Y → Calls Tryz.prog 26 #[.pointer (some ⟨b0, o0 + iy * 7, none⟩), .int .i64 ((d : Int) + 1), .pointer (some ⟨gp, 0, none⟩), .pointer (some ⟨gd, 0, none⟩), .pointer (some ⟨gm, 0, none⟩)] Y fun e Z => e = .returned (.tuple #[]) ∧ WrP gp B X0 (pageV L (nodeL nd d ++ (pre nds f (d + 1) (nd.kids.take (j + 1))).flatMap (nodeT nds))) Z) := Lib.hid fun Y hY => by
        have := HR.out k iy y Y _ HKM.out HIY.out HYK.out (HWr.out.after hY)
        rw [HTK.out, ← List.append_assoc, pageV_append]
        exact this
      clear hck hk hy hiy hyk
      go_upto_region 4 with (fail)
      refine wp_region_held_tail 6 (fun Y => Below wr.heap.size wr Y ∧ Y.cell? ⟨gd, 0, none⟩ = some (.func (.func 26) #[] #[.pointer (some ⟨gp, 0, none⟩), .pointer (some ⟨gd, 0, none⟩), .pointer (some ⟨gm, 0, none⟩)]) ∧ Y.cell? ⟨gm, 0, none⟩ = some (.int .i64 next) ∧ Y.cell? ⟨gm, 1, none⟩ = some (.slice (some ⟨b0, o0, none⟩) n c)) (by kernel_rfl) (by kernel_rfl) ?hSd (fun hHeld => ?qd0)
      case hSd => exact ⟨below_drew1' wr, HC4.out _ (below_drew1' wr)⟩
      case qd0 =>
        simp only [List.take_succ_cons, List.take_zero, List.drop_succ_cons, List.drop_zero]
        refine wpAnyH_take (i := 0) (oi := ⟨some 21, _, _, _, _, _⟩) (v := (.func (.func 26) #[] #[.pointer (some ⟨gp, 0, none⟩), .pointer (some ⟨gd, 0, none⟩), .pointer (some ⟨gm, 0, none⟩)])) rfl (by kernel_rfl) (by kernel_rfl) (by kernel_rfl) (fun _ _ _ h => h) (Or.inl ⟨by rfl, ?yd_1⟩) (by assumption) ?qd_1
        case yd_1 => (intro w hSw; (try dsimp only at hSw); go_simp)
        case qd_1 =>
          (try simp only [Act.put]); (try simp only [List.setIfInBounds_toArray])
          refine wpAnyH_take (i := 1) (oi := ⟨some 22, _, _, _, _, _⟩) (v := (.agg #[.int .i64 next, .slice (some ⟨b0, o0, none⟩) n c])) rfl (by kernel_rfl) (by kernel_rfl) (by kernel_rfl) (fun _ _ _ h => h) (Or.inl ⟨by rfl, ?yd_2⟩) (by assumption) ?qd_2
          case yd_2 => (intro w hSw; (try dsimp only at hSw); go_simp)
          case qd_2 =>
            (try simp only [Act.put]); (try simp only [List.setIfInBounds_toArray])
            refine wpAnyH_take (i := 2) (oi := ⟨some 23, _, _, _, _, _⟩) (v := (.int .i64 k)) rfl (by kernel_rfl) (by kernel_rfl) (by kernel_rfl) (fun _ _ _ h => h) (Or.inl ⟨by rfl, ?yd_3⟩) (by assumption) ?qd_3
            case yd_3 => (intro w hSw; (try dsimp only at hSw); go_simp)
            case qd_3 =>
              (try simp only [Act.put]); (try simp only [List.setIfInBounds_toArray])
              refine wpAnyH_take (i := 4) (oi := ⟨some 25, _, _, _, _, _⟩) (v := (.int .i64 (d : Int))) rfl (by kernel_rfl) (by kernel_rfl) (by kernel_rfl) (fun _ _ _ h => h) (Or.inl ⟨by rfl, ?yd_5⟩) (by assumption) ?qd_5
              case yd_5 => (intro w hSw; (try dsimp only at hSw); go_simp)
              case qd_5 =>
                (try simp only [Act.put]); (try simp only [List.setIfInBounds_toArray])
                refine wpAnyH_take (i := 5) (oi := ⟨some 26, _, _, _, _, _⟩) (v := (.int .i64 ((d : Int) + 1))) rfl (by kernel_rfl) (by kernel_rfl) (by kernel_rfl) (fun _ _ _ h => h) (Or.inl ⟨by rfl, ?yd_6⟩) (by assumption) ?qd_6
                case yd_6 => (intro w hSw; (try dsimp only at hSw); go_simp)
                case qd_6 =>
                  (try simp only [Act.put]); (try simp only [List.setIfInBounds_toArray])
                  refine wpAnyH_make (i := 3) (o := ⟨some 24, _, _, _, _, _⟩) (by kernel_rfl) rfl (by simp [Region.wanted, yielded]) 28 #[.agg #[.int .i64 next, .slice (some ⟨b0, o0, none⟩) n c], .int .i64 k] (.pointer (some ⟨b0, o0 + iy * 7, none⟩)) (R := fun Y => Below wr.heap.size wr Y) (by go_simp) HSN.out (fun Y hY => ⟨hY, HC4.out Y hY⟩) (fun Y hY => ?qnode)
                  case qnode =>
                    (try simp only [Act.put]); (try simp only [List.setIfInBounds_toArray])
                    have hHeldY : Below wr.heap.size wr Y ∧ Y.cell? ⟨gd, 0, none⟩ = some (.func (.func 26) #[] #[.pointer (some ⟨gp, 0, none⟩), .pointer (some ⟨gd, 0, none⟩), .pointer (some ⟨gm, 0, none⟩)]) ∧ Y.cell? ⟨gm, 0, none⟩ = some (.int .i64 next) ∧ Y.cell? ⟨gm, 1, none⟩ = some (.slice (some ⟨b0, o0, none⟩) n c) := ⟨hY, HC4.out Y hY⟩
                    refine wpAnyH_done (by kernel_rfl) ?_ _
                    clear hHeld hHeldY
                    show wpList _ _ _ _ _ _
                    have HYc := Lib.hid hY
                    go_wp2_with (go_at_call 26; refine (HRC.out _ HYc.out).mono ?_; rintro e Z2 ⟨rfl, hwz⟩; have HW2 := Lib.hid hwz; clear hwz)
                    go_roundw
                    case rel => exact ⟨j + 1, by omega, by go_num, HW2⟩
                    case measure => simp [intOf]; omega
    · have HFI : Hid (WrP gp B X0 (pageV L (nodeL nd d ++ (pre nds f (d + 1) nd.kids).flatMap (nodeT nds))) wr) := Lib.hid (by have := HWr.out; rw [List.take_of_length_le (by omega)] at this; exact this)
      have hjn2 : ¬ (j : Int) < (nk : Int) := by omega
      go_wp2_with fail
      go_end0
      exact ⟨rfl, HFI.out⟩
/-- a node and all below it -/
theorem pdown_any {X0 : World} {gp B gm gd hi : Nat} {next : Int} {b0 o0 n c : Nat} {nds : List Nd} {V : Nat → Leaf} (E : DE X0 gp B gm gd hi next b0 o0 n c nds V) : ∀ (f d : Nat), f + 1 + d = 65 → 1 ≤ d → ∀ (i : Nat) (nd : Nd), nds[i]? = some nd → depthV nds nd.id = d →
    ∀ (X : World) (L : List UInt8), WrP gp B X0 L X →
    Calls Tryz.prog 26 #[.pointer (some ⟨b0, o0 + i * 7, none⟩), .int .i64 d, .pointer (some ⟨gp, 0, none⟩), .pointer (some ⟨gd, 0, none⟩), .pointer (some ⟨gm, 0, none⟩)] X fun e Y => e = .returned (.tuple #[]) ∧ WrP gp B X0 (pageV L ((pre nds (f + 1) d [nd.id]).flatMap (nodeT nds))) Y := by
  intro f
  induction f with
  | zero =>
    intro d hfd hd1 i nd hnd hdep X L hW
    have hx := ndOf_is E.right.rise hnd
    have e1 : (pre nds (0 + 1) d [nd.id]).flatMap (nodeT nds) = nodeL nd d ++ (pre nds 0 (d + 1) nd.kids).flatMap (nodeT nds) := by
      rw [pre_cons, pre_nil, List.append_nil, List.flatMap_cons, kidsV_of hx]
      congr 1
      unfold nodeT
      simp only [hx]
    rw [e1]
    refine down_node E 0 d hd1 (by omega) i nd hnd ?_ X L hW
    intro k iy y X' L' hk hy hyk hW'
    obtain ⟨y', hy', _, hdk⟩ := kid_depth E.right hx hk
    have := (E.right.depth hy').2.2
    omega
  | succ f ih =>
    intro d hfd hd1 i nd hnd hdep X L hW
    have hx := ndOf_is E.right.rise hnd
    have e1 : (pre nds (f + 1 + 1) d [nd.id]).flatMap (nodeT nds) = nodeL nd d ++ (pre nds (f + 1) (d + 1) nd.kids).flatMap (nodeT nds) := by
      rw [pre_cons, pre_nil, List.append_nil, List.flatMap_cons, kidsV_of hx]
      congr 1
      unfold nodeT
      simp only [hx]
    rw [e1]
    refine down_node E (f + 1) d hd1 (by omega) i nd hnd ?_ X L hW
    intro k iy y X' L' hk hy hyk hW'
    obtain ⟨y', hy', _, hdk⟩ := kid_depth E.right hx hk
    have := ih (d + 1) (by omega) (by omega) iy y hy (by rw [hyk, hdk, hdep]) X' L' hW'
    rw [hyk, show ((d + 1 : Nat) : Int) = (d : Int) + 1 from by omega] at this
    exact this
end Go.Proofs.YtjjlofaejpnnnaaGreatDoor
namespace Go.Proofs.YtjjlofaejpnnnaaGreatDoor
open Go Go.RowKit
set_option linter.unusedVariables false
theorem name_sz : ∀ l : List UInt8, nameL l = true → l.length ≤ 32
  | [], _ => by simp
  | c :: r, h => by
    simp only [nameL, Bool.and_eq_true, decide_eq_true_eq] at h
    rw [List.length_cons]; have := h.1.1; omega
theorem word_sz {s : ByteArray} (h : wordB s = true) : s.size ≤ 4096 := by
  unfold wordB wordL at h
  have h1 := name_sz _ h
  rw [← toList_eq]
  unfold stripL at h1
  split at h1
  · rename_i e; rw [e]; simp
  · rename_i c r e
    rw [e, List.length_cons]
    split at h1
    · omega
    · rw [List.length_cons] at h1; omega
theorem props_sz : ∀ (l : List (ByteArray × ByteArray)) (q : Option ByteArray), propsB q l = true → ∀ p ∈ l, p.1.size ≤ 4096 ∧ p.2.size ≤ 4096
  | [], _, _, p, hp => by cases hp
  | x :: l, q, h, p, hp => by
    unfold propsB at h
    simp only [Bool.and_eq_true, decide_eq_true_eq] at h
    rcases List.mem_cons.1 hp with rfl | hp
    · exact ⟨word_sz h.1.1.1, h.1.1.2⟩
    · exact props_sz l _ h.2 p hp
theorem refs_sz (next : Int) : ∀ (l : List (ByteArray × Int)) (q : Option ByteArray), refsB next q l = true → ∀ p ∈ l, p.1.size ≤ 4096 ∧ 1 ≤ p.2 ∧ p.2 < next
  | [], _, _, p, hp => by cases hp
  | x :: l, q, h, p, hp => by
    unfold refsB at h
    simp only [Bool.and_eq_true, decide_eq_true_eq] at h
    rcases List.mem_cons.1 hp with rfl | hp
    · exact ⟨word_sz h.1.1.1.1, h.1.1.1.2, h.1.1.2⟩
    · exact refs_sz next l _ h.2 p hp
theorem nd_ok {next : Int} {nds : List Nd} (hr : RightM next nds) {nd : Nd} (h : nd ∈ nds) : NdOk nd := by
  have h1 := hr.plain nd h
  unfold plainB at h1
  simp only [Bool.and_eq_true, decide_eq_true_eq] at h1
  obtain ⟨i, hi⟩ := List.getElem?_of_mem h
  have h2 := hr.rise.pos i nd hi
  have h3 := hr.lt i nd hi
  have h4 := hr.hi
  have h5 := hr.below nd h
  refine ⟨by omega, by omega, word_sz h1.1.1.1.1, ?_, props_sz _ _ h1.1.1.2, fun r hr2 => ?_⟩
  · unfold belowB at h5
    split at h5
    · rw [Lib.toList_data] at h5
      have : nd.role.size = 0 := by
        have h6 := List.isEmpty_iff.1 h5
        have := congrArg List.length h6
        rw [Array.length_toList] at this
        exact this
      omega
    · split at h5
      · cases h5
      · simp only [Bool.and_eq_true] at h5
        exact word_sz h5.1.1
  · have := refs_sz next _ _ h1.1.2 r hr2
    exact ⟨this.1, by omega, by omega⟩
theorem roots_take' {nds : List Nd} {j : Nat} {nd : Nd} (h : nds[j]? = some nd) : rootsV (nds.take (j + 1)) = rootsV (nds.take j) ++ if nd.par == 0 then [nd.id] else [] := by
  unfold rootsV
  rw [List.take_add_one, h, List.filter_append, List.map_append]
  cases hp : (nd.par == 0) <;> simp [hp]
theorem PB.far {gp B : Nat} {L : List UInt8} {v : Value} {X : World} (h : PB gp B L v X) {g i : Nat} {u : Value} {T : TypeId} {cs : Array Value} (hb : Blk X g T cs) (hg : g ≠ gp) (hT : (T != 5) = true := by rfl) : PB gp B L v (X.setCell ⟨g, i, none⟩ u) := by
  refine ⟨h.t.far (p := ⟨g, i, none⟩) (by show gp ≠ g; omega) u, ⟨h.o.1, ?_⟩, h.lt, Nat.le_trans h.sz ((Below.refl 0 X).setCell (p := ⟨g, i, none⟩) (Nat.zero_le _) u).size⟩
  rcases h.o.2 with hn | ⟨k, cap, cur, hv, hk, hgg, rest⟩
  · exact .inl hn
  · refine .inr ⟨k, cap, cur, hv, hk, (Below.heap_setCell X ⟨g, i, none⟩ u k (fun he => ?_)).trans hgg, rest⟩
    have he2 : k = g := he
    subst he2
    unfold Blk at hb
    rw [hgg] at hb
    injection hb with hb
    injection hb with _ h2 _
    subst h2
    simp at hT
def PrintP (w : World) (r : List UInt8 × Int) (e : Ending) (w' : World) : Prop := e = .returned (.tuple #[.string ⟨r.1.toArray⟩, .int .i64 r.2]) ∧ Below w.heap.size w w'
theorem printP {w w' : World} {r : List UInt8 × Int} {T : List UInt8} {x : Int} (hr : r = (T, x)) (hb : Below w.heap.size w w') : PrintP w r (.returned (.tuple #[.string ⟨T.toArray⟩, .int .i64 x])) w' := by subst hr; exact ⟨rfl, hb⟩
theorem checkV_no' {next : Int} {nds : List Nd} (h : rightB next nds = false) : checkV next nds = 29 := by unfold checkV; rw [h]; rfl
theorem checkV_yes' {next : Int} {nds : List Nd} (h : rightB next nds = true) : checkV next nds = 0 := by unfold checkV; rw [h]; rfl
set_option maxRecDepth 20000 in
set_option maxHeartbeats 6400000 in
theorem print_any (w : World) (hi : Nat) (next : Int) (A : Option Addr) (n c : Nat) (nds : List Nd) (h : NodesIn w 0 hi A n c nds) (hh : hi ≤ w.heap.size) (hE : TabEnv w) :
    Calls Tryz.prog 12 #[.agg #[.int .i64 next, .slice A n c]] w (PrintP w (printV next nds)) := by
  have HH := Lib.hid h
  have HE := Lib.hid hE
  have hgt : 5 < w.heap.size := var_lt gTab hE
  have HM0 : Hid (Blk (w.alloc (.cells #[.int .i64 next, .slice A n c] 25)) w.heap.size 25 #[.int .i64 next, .slice A n c]) := Lib.hid (Blk.new _ _ _)
  have HB0 : Hid (Below w.heap.size w (w.alloc (.cells #[.int .i64 next, .slice A n c] 25))) := Lib.hid ((Below.refl _ _).alloc (Nat.le_refl _) _)
  have hc := h.2.2.1
  have hnc := h.2.1
  unfold maxLen at hc
  clear h hE
  generalize hpv : printV next nds = pv
  have HPV := Lib.hid hpv
  clear hpv
  go_enter Tryz.func12, Tryz.ntmps12
  go_upto_region 1 with (fail)
  generalize w.alloc (.cells #[.int .i64 next, .slice A n c] 25) = W0 at HM0 HB0 ⊢
  have a0 := (HM0.out.cell 0).trans (show _ = some (.int .i64 next) from rfl)
  have a1 := (HM0.out.cell 1).trans (show _ = some (.slice A n c) from rfl)
  have HCh := Lib.hid (check_any W0 hi next A n c nds (HH.out.below (HB0.out.mono hh)) (Nat.le_trans hh HB0.out.size))
  cases hrt : rightB next nds with
  | false =>
    have HX : Hid (pv = ([], 29)) := Lib.hid (by rw [← HPV.out]; unfold printV; rw [hrt]; rfl)
    rw [checkV_no' hrt] at HCh
    clear hrt
    go_wp2_with (go_at_call 13; refine HCh.out.mono ?_; rintro e w2 ⟨rfl, hb2⟩; have HB2 := Lib.hid (HB0.out.trans (hb2.mono HB0.out.size)); clear hb2)
    go_ret2
    exact printP HX.out HB2.out
  | true =>
    have hR := rightM hrt
    have HR := Lib.hid hR
    have hn4 : n ≤ 4096 := by rw [← HH.out.1]; exact hR.len
    have HX : Hid (pv = toldV ((headL next :: (pre nds 64 1 (rootsV nds)).flatMap (nodeT nds)).flatten)) := Lib.hid (by rw [← HPV.out]; unfold printV; rw [hrt]; rfl)
    rw [checkV_yes' hrt] at HCh
    obtain ⟨T, hT, hTs, hTe⟩ := itoa_text next (by have := hR.lo; omega) (by have := hR.hi; omega)
    have hlo := hR.lo
    have hhi2 := hR.hi
    clear hrt hR
    go_upto_region 4 with (go_at_call 13; refine HCh.out.mono ?_; rintro e w2 ⟨rfl, hb2⟩; have HB2 := Lib.hid (HB0.out.trans (hb2.mono HB0.out.size)); have HM2 := Lib.hid (HM0.out.after hb2); clear hb2)
    have HP3 : Hid (PB w2.heap.size (w2.heap.size + 1) [] (.slice none 0 0) (w2.alloc (.cells #[.slice none 0 0] 65))) := Lib.hid ⟨Blk.new _ _ _, ownB.nil _ _, by omega, by simp⟩
    have HM3 := Lib.hid (HM2.out.alloc (.cells #[.slice none 0 0] 65))
    have HB3 : Hid (Below w.heap.size w (w2.alloc (.cells #[.slice none 0 0] 65))) := Lib.hid (HB2.out.alloc HB2.out.size _)
    have HGP : Hid (w.heap.size < w2.heap.size) := Lib.hid HM2.out.lt
    generalize w2.alloc (.cells #[.slice none 0 0] 65) = W3 at HP3 HM3 HB3 ⊢
    generalize w2.heap.size = gp at HP3 HGP ⊢
    have hgp := HGP.out
    have a3 := (HM3.out.cell 0).trans (show _ = some (.int .i64 next) from rfl)
    have HSH : Hid (∀ Y, Below w.heap.size w Y → Calls Tryz.prog 25 #[.int .i64 next] Y fun e w' => e = .returned (.string T) ∧ Below Y.heap.size Y w') := Lib.hid fun Y hY => (show_s next Y (by omega) (by omega) (tab_keep HE.out hY hgt)).mono fun e w' he => ⟨by rw [he.1, hTe], he.2⟩
    have z1 : ¬ 9223372036854775807 < 5 + T.size := by omega
    have HHL : Hid (pageA [] (bl 0 ++ ((⟨#[110, 101, 120, 116, 32]⟩ : ByteArray) ++ T).data.toList ++ [10]) = headL next) := Lib.hid (by
      unfold pageA headL
      rw [if_neg (by simp), append_list, hT]
      simp [bl])
    have HLI : Hid (∀ Y, Below W3.heap.size W3 Y → Calls Tryz.prog 24 #[.pointer (some ⟨gp, 0, none⟩), .int .i64 0, .string (⟨#[110, 101, 120, 116, 32]⟩ ++ T)] Y (LineP gp (gp + 1) Y (headL next))) := Lib.hid fun Y hY => by
      rw [← HHL.out]
      exact line_any Y gp (gp + 1) [] _ 0 _ (HP3.out.after hY) (by omega) (by rw [ByteArray.size_append]; have : (⟨#[110, 101, 120, 116, 32]⟩ : ByteArray).size = 5 := rfl; omega)
    clear a0 a1 HCh
    go_upto_region 5 with (first | (go_at_call 25; refine (HSH.out _ HB3.out).mono ?_; rintro e w4 ⟨rfl, hb4⟩; have HB34 := Lib.hid hb4; clear hb4) | (go_at_call 24; refine (HLI.out _ HB34.out).mono ?_; rintro e w5 ⟨rfl, hp5, hk5⟩; have HP5 := Lib.hid hp5; have HK5 : Hid (KeepP gp (gp + 1) W3 w5) := Lib.hid ((KeepP.after HB34.out).trans hk5); clear hp5 hk5))
    have HW3 : Hid (gp < W3.heap.size) := Lib.hid HP3.out.t.lt
    have HB5 : Hid (Below w.heap.size w w5) := Lib.hid (HB3.out.trans ((HK5.out.below (by omega) (by have := HW3.out; omega)).mono (by omega)))
    have HM5 := Lib.hid (HK5.out.blk HM3.out (by omega))
    have a5 := (HM5.out.cell 1).trans (show _ = some (.slice A n c) from rfl)
    obtain ⟨v5, hv5⟩ := HP5.out
    have HV5 : Hid (PB gp (gp + 1) (headL next) v5 (w5.alloc (.cells #[.nilFunc] 68))) := Lib.hid (hv5.alloc _)
    have HD6 : Hid (Blk (w5.alloc (.cells #[.nilFunc] 68)) w5.heap.size 68 #[.nilFunc]) := Lib.hid (Blk.new _ _ _)
    have HM6 := Lib.hid (HM5.out.alloc (.cells #[.nilFunc] 68))
    have HB6 : Hid (Below w.heap.size w (w5.alloc (.cells #[.nilFunc] 68))) := Lib.hid (HB5.out.alloc HB5.out.size _)
    have hgd : gp < w5.heap.size := hv5.t.lt
    clear hv5 a3 a5
    go_upto_region 6 with (fail)
    generalize w5.alloc (.cells #[.nilFunc] 68) = W6 at HV5 HD6 HM6 HB6 ⊢
    generalize w5.heap.size = gd at HD6 hgd ⊢
    have cz := (HD6.out.cell 0).trans (show _ = some .nilFunc from rfl)
    have fz := HD6.out.frozen 0
    have HP7 : Hid (PB gp (gp + 1) (headL next) v5 (W6.setCell ⟨gd, 0, none⟩ (.func (.func 26) #[] #[.pointer (some ⟨gp, 0, none⟩), .pointer (some ⟨gd, 0, none⟩), .pointer (some ⟨w.heap.size, 0, none⟩)]))) := Lib.hid (HV5.out.far HD6.out (by omega))
    have HD7 : Hid (Blk (W6.setCell ⟨gd, 0, none⟩ (.func (.func 26) #[] #[.pointer (some ⟨gp, 0, none⟩), .pointer (some ⟨gd, 0, none⟩), .pointer (some ⟨w.heap.size, 0, none⟩)])) gd 68 #[.func (.func 26) #[] #[.pointer (some ⟨gp, 0, none⟩), .pointer (some ⟨gd, 0, none⟩), .pointer (some ⟨w.heap.size, 0, none⟩)]]) := Lib.hid (by
      have := HD6.out.set_ 0 (.func (.func 26) #[] #[.pointer (some ⟨gp, 0, none⟩), .pointer (some ⟨gd, 0, none⟩), .pointer (some ⟨w.heap.size, 0, none⟩)])
      simpa using this)
    have HM7 : Hid (Blk (W6.setCell ⟨gd, 0, none⟩ (.func (.func 26) #[] #[.pointer (some ⟨gp, 0, none⟩), .pointer (some ⟨gd, 0, none⟩), .pointer (some ⟨w.heap.size, 0, none⟩)])) w.heap.size 25 #[.int .i64 next, .slice A n c]) := Lib.hid (HM6.out.far (p := ⟨gd, 0, none⟩) (by show w.heap.size ≠ gd; omega) _)
    have HB7 : Hid (Below w.heap.size w (W6.setCell ⟨gd, 0, none⟩ (.func (.func 26) #[] #[.pointer (some ⟨gp, 0, none⟩), .pointer (some ⟨gd, 0, none⟩), .pointer (some ⟨w.heap.size, 0, none⟩)]))) := Lib.hid (HB6.out.setCell (p := ⟨gd, 0, none⟩) (by show w.heap.size ≤ gd; omega) _)
    go_upto_region 7 with (fail)
    generalize W6.setCell ⟨gd, 0, none⟩ (.func (.func 26) #[] #[.pointer (some ⟨gp, 0, none⟩), .pointer (some ⟨gd, 0, none⟩), .pointer (some ⟨w.heap.size, 0, none⟩)]) = X0 at HP7 HD7 HM7 HB7 ⊢
    clear cz fz
    have HDE : Hid (0 < n → ∃ (b0 o0 : Nat) (V : Nat → Leaf), A = some ⟨b0, o0, none⟩ ∧ DE X0 gp (gp + 1) w.heap.size gd hi next b0 o0 n c nds V) := Lib.hid fun hn0 => by
      obtain ⟨b0, o0, hA, _, hb0, V, hV⟩ := HH.out.2.2.2 hn0
      have hbl := HB7.out.mono hh
      subst hA
      exact ⟨b0, o0, V, rfl, ⟨HH.out.below hbl, fun i nd hnd => ⟨(hV i nd hnd).1.below hbl hb0, (hV i nd hnd).2.below hbl⟩, hb0, by omega, by omega, HP7.out.sz, HM7.out, by omega, HD7.out, by omega, HR.out, fun nd hnd => nd_ok HR.out hnd, tab_keep HE.out HB7.out hgt, by omega⟩⟩
    have HNN : Hid (n = nds.length) := Lib.hid HH.out.1.symm
    have a7 := (HM7.out.cell 1).trans (show _ = some (.slice A n c) from rfl)
    go_wp2_with fail
    go_loopw [20] (fun i wr => ∃ j : Nat, j ≤ n ∧ i = .int .i64 j ∧ Hid (WrP gp (gp + 1) X0 (pageV (headL next) ((pre nds 64 1 (rootsV (nds.take j))).flatMap (nodeT nds))) wr)) (fun i _ => n - (intOf i).toNat)
    case atStart => exact ⟨0, Nat.zero_le _, rfl, Lib.hid (by rw [List.take_zero, show rootsV [] = [] from rfl, pre_nil, List.flatMap_nil]; exact ⟨⟨_, HP7.out⟩, KeepP.refl _ _ _⟩)⟩
    case round =>
      clear a7
      rename World => wr
      obtain ⟨j, hj, rfl, HWr⟩ := hrel
      have a8 := ((HWr.out.k.blk HM7.out (by omega)).cell 1).trans (show _ = some (.slice A n c) from rfl)
      by_cases hjn : j < n
      · obtain ⟨b0, o0, V, hA, E⟩ := HDE.out (by omega)
        subst hA
        have HDn := Lib.hid (pdown_any E 63 1 (by omega) (by omega))
        obtain ⟨nd, hnd⟩ : ∃ nd, nds[j]? = some nd := ⟨nds[j]'(by have := HNN.out; omega), List.getElem?_eq_getElem _⟩
        have hlow := HWr.out.k.below (by omega) (by have := E.hB; omega)
        have x2 := ((E.at_ j nd hnd).1.below hlow (by have := E.b0h; omega)).c2
        have hRT := roots_take' hnd
        have HND := Lib.hid hnd
        have cd := ((HWr.out.k.blk E.d E.gdne).cell 0).trans (show _ = some (.func (.func 26) #[] #[.pointer (some ⟨gp, 0, none⟩), .pointer (some ⟨gd, 0, none⟩), .pointer (some ⟨w.heap.size, 0, none⟩)]) from rfl)
        cases d1 : (nd.par == 0) with
        | false =>
          have HN : Hid (rootsV (nds.take (j + 1)) = rootsV (nds.take j)) := Lib.hid (by rw [hRT, d1]; simp)
          clear hRT hnd E hlow
          go_wp2_with fail
          go_roundw
          case rel => exact ⟨j + 1, by omega, by go_num, Lib.hid (by rw [HN.out]; exact HWr.out)⟩
          case measure => simp [intOf]; omega
        | true =>
          have HN : Hid (rootsV (nds.take (j + 1)) = rootsV (nds.take j) ++ [nd.id]) := Lib.hid (by rw [hRT, d1]; simp)
          have hdep : depthV nds nd.id = 1 := by
            refine (roots_at HR.out nd.id ?_).2
            unfold rootsV
            exact List.mem_map.2 ⟨nd, List.mem_filter.2 ⟨List.mem_of_getElem? hnd, d1⟩, rfl⟩
          have HCL : Hid (Calls Tryz.prog 26 #[.pointer (some ⟨b0, o0 + j * 7, none⟩), .int .i64 1, .pointer (some ⟨gp, 0, none⟩), .pointer (some ⟨gd, 0, none⟩), .pointer (some ⟨w.heap.size, 0, none⟩)] wr fun e Y => e = .returned (.tuple #[]) ∧ WrP gp (gp + 1) X0 (pageV (headL next) ((pre nds 64 1 (rootsV (nds.take (j + 1)))).flatMap (nodeT nds))) Y) := Lib.hid (by
            have := HDn.out j nd hnd hdep wr _ HWr.out
            rw [HN.out, pre_append, List.flatMap_append, pageV_append]
            exact this)
          clear hRT hnd E hlow hdep
          go_wp2_with (go_at_call 26; refine HCL.out.mono ?_; rintro e Y ⟨rfl, hwy⟩; have HWY := Lib.hid hwy; clear hwy)
          go_roundw
          case rel => exact ⟨j + 1, by omega, by go_num, HWY⟩
          case measure => simp [intOf]; omega
      · have HFI : Hid (WrP gp (gp + 1) X0 (pageV (headL next) ((pre nds 64 1 (rootsV nds)).flatMap (nodeT nds))) wr) := Lib.hid (by have := HWr.out; rw [List.take_of_length_le (by have := HNN.out; omega)] at this; exact this)
        have hjn2 : ¬ (j : Int) < (n : Int) := by omega
        have HTO := Lib.hid (toldV_page (headL next) ((pre nds 64 1 (rootsV nds)).flatMap (nodeT nds)))
        have HX2 : Hid (pv = toldV (headL next ++ ((pre nds 64 1 (rootsV nds)).flatMap (nodeT nds)).flatten)) := Lib.hid (by rw [HX.out, List.flatten_cons])
        generalize pageV (headL next) ((pre nds 64 1 (rootsV nds)).flatMap (nodeT nds)) = L at HFI HTO
        obtain ⟨v9, hv9⟩ := HFI.out.p
        have HBW : Hid (Below w.heap.size w wr) := Lib.hid (HB7.out.trans ((HFI.out.k.below (by omega) (by have := HP7.out.sz; omega)).mono (by omega)))
        have HLG := Lib.hid (long_any wr gp (gp + 1) L v9 hv9)
        have c9 := (hv9.t.cell 0).trans (show _ = some v9 from rfl)
        have hcv := conv_own hv9.o
        clear hv9
        by_cases hlg : 1048576 < L.length
        · have h1 : decide (1048576 < L.length) = true := by simpa using hlg
          rw [h1] at HLG
          have HPR : Hid (pv = ([], 3)) := Lib.hid (by rw [HX2.out, ← HTO.out, if_pos hlg])
          clear h1 hlg
          go_wp2_with (go_at_call 29; refine HLG.out.mono ?_; rintro e X9 ⟨rfl, rfl⟩)
          go_ret2
          exact printP HPR.out HBW.out
        · have h1 : decide (1048576 < L.length) = false := by simpa using hlg
          rw [h1] at HLG
          have HPR : Hid (pv = (L, 0)) := Lib.hid (by rw [HX2.out, ← HTO.out, if_neg hlg])
          clear h1 hlg
          go_wp2_with (go_at_call 29; refine HLG.out.mono ?_; rintro e X9 ⟨rfl, rfl⟩)
          go_ret2
          exact printP HPR.out HBW.out
end Go.Proofs.YtjjlofaejpnnnaaGreatDoor

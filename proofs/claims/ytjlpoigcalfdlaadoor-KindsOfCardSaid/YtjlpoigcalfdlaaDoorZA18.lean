/-
  WALKS over the document's answers for layer 9: Kind.
-/
import Derived.Test.YtjlpoigcalfdlaaDoorZA17
namespace Go.Proofs.YtjlpoigcalfdlaaDoor
open Go Go.RowKit Go.Sort
set_option linter.unusedVariables false
theorem OwnI.after {w w' : World} {B : Nat} {v : Value} {l : List Int} (h : OwnI w B v l) (hb : Below w.heap.size w w') : OwnI w' B v l := own_after h hb
theorem OwnI.alloc {w : World} {B : Nat} {v : Value} {l : List Int} (h : OwnI w B v l) (o : Obj) : OwnI (w.alloc o) B v l := World.ownsRow.alloc h o
theorem own_someI {w : World} {B n c : Nat} {A : Option Addr} {l : List Int} (h : OwnI w B (.slice A n c) l) (hl : l.length = n) (hn : 0 < n) : ∃ g, A = some ⟨g, 0, none⟩ ∧ n ≤ c ∧ c ≤ maxLen := by
  subst hl
  have hr := own_row h
  rcases h.2 with ⟨hv, h0⟩ | ⟨g, cap, cur, hv, _⟩
  · omega
  · injection hv with h1; exact ⟨g, h1, hr.2.1, hr.2.2.1⟩
theorem own_atI {w : World} {B n c g a : Nat} {l : List Int} {y : Int} (h : OwnI w B (.slice (some ⟨g, 0, none⟩) n c) l) (hl : l.length = n) (hy : l[a]? = some y) : w.cell? ⟨g, a, none⟩ = some (.int .i64 y) := by
  subst hl
  have hk := (List.getElem?_eq_some_iff.1 hy).1
  have := World.ownsRow.cellAt h (a * 1) (by omega)
  rw [Nat.mul_one] at this
  rw [this]
  exact intCells_get hy
theorem app_int1 {X : World} {ops : Array Oper} {rest : List Oper} {o : Oper} {a : Act} {Q : Exit → Act → World → Prop} (hgd : o.guard = none) (s x : Operand)
    (ho : o.op = .call { callee := .builtin .append, args := #[s, x], argTypes := #[29, 29] })
    (B : Nat) (v : Value) (n : Nat) (l : List Int) (hs : a.eval s = v) (hown : OwnI X B v l) (hl : l.length = n) (g : Nat) (y : Int) (hx : a.eval x = .slice (some ⟨g, 0, none⟩) 1 1) (hg : Blk X g 3 #[.int .i64 y])
    (hroom : n ≤ 100000000) (hB : B ≤ X.heap.size)
    (h : ∀ A' c' w', OwnI w' B (.slice A' (n + 1) c') (l ++ [y]) → Below B X w' → wpList Tryd.prog ops Q rest (a.put o.dst (.slice A' (n + 1) c')) w') : wpList Tryd.prog ops Q (o :: rest) a X := by
  subst hl
  obtain ⟨i0, hi0, hz0, hz1, hz2⟩ := info_parts intInfo
  refine wpList_app X hgd s x _ ho B 3 i0 (.int .i64 0) 1 8 Tryd.underlying29 hi0 hz0 hz1 hz2 rfl (by decide) v l.length (intCells l) hs hown g (g + 1) (some ⟨g, 0, none⟩) 1 1 (intCells [y]) hx (row_blk hg rfl (Nat.le_refl _) (by unfold maxLen; omega)) (fun u hu => by simp [intCells] at hu; subst hu; rfl) (by unfold maxLen; omega) (by omega) hB ?_
  intro v' w' hown' hg' _
  obtain ⟨A', c', rfl⟩ := own_form hown'
  refine h A' c' w' ?_ ((Below.refl _ _).grown hg' hB (fun k hk => (World.ownsRow.lt hown k hk).1))
  unfold OwnI
  rw [List.length_append, List.length_singleton]
  simpa [intCells] using hown'
/-- a number is told -/
def SaysB (w : World) (k : Int) (e : Ending) (w' : World) : Prop := e = .returned (.int .i64 k) ∧ Below w.heap.size w w'
theorem saysB {w w' : World} {k k' : Int} (h : k = k') (hb : Below w.heap.size w w') : SaysB w k' (.returned (.int .i64 k)) w' := ⟨by rw [h], hb⟩
/-- the boxes of a walk over a node: the expression, the node -/
structure NB (w : World) (A : Option Addr) (n c : Nat) (x : EN × Sl) (W : World) : Prop where
  bel : Below w.heap.size w W
  e : Blk W w.heap.size 24 #[.slice A n c]
  n : Blk W (w.heap.size + 1) 46 (nodeCs x)
theorem NB.after {w : World} {A : Option Addr} {n c : Nat} {x : EN × Sl} {W W' : World} (h : NB w A n c x W) (hb : Below W.heap.size W W') : NB w A n c x W' := ⟨h.bel.trans (hb.mono h.bel.size), h.e.after hb, h.n.after hb⟩
theorem NB.low {w : World} {A : Option Addr} {n c : Nat} {x : EN × Sl} {W W' : World} (h : NB w A n c x W) (hb : Below (w.heap.size + 2) W W') : NB w A n c x W' := ⟨h.bel.trans (hb.mono (by omega)), h.e.below hb (by omega), h.n.below hb (by omega)⟩
theorem NB.two {w : World} {A : Option Addr} {n c : Nat} {x : EN × Sl} {W : World} (h : NB w A n c x W) : w.heap.size + 2 ≤ W.heap.size := h.n.lt
theorem takeI_snoc {l : List Int} {j : Nat} {v : Int} (h : l[j]? = some v) : l.take j ++ [v] = l.take (j + 1) := by
  rw [List.take_add_one, h]; rfl
theorem no_zero_step {l : List Int} {j : Nat} {v : Int} (h : ∀ u ∈ l.take j, u ≠ 0) (hv : l[j]? = some v) (h0 : v ≠ 0) : ∀ u ∈ l.take (j + 1), u ≠ 0 := by
  intro u hu
  rw [← takeI_snoc hv, List.mem_append] at hu
  rcases hu with hu | hu
  · exact h u hu
  · obtain rfl : u = v := by simpa using hu
    exact h0
theorem kidsV_le (k : Int) : kidsV k ≤ 3 := by
  unfold kidsV
  repeat' split
  all_goals omega
theorem kindV_hole {k : Int} {b : Bool} {ks : List Int} {j : Nat} (h : ks[j]? = some 0) : kindV k b ks = 0 := by
  unfold kindV
  rw [if_pos (by simp; exact List.mem_of_getElem? h)]
def kindLast (k : Int) (ks : List Int) : Int := if k = 30 then (match ks with | [a, b, c] => if a = 3 ∧ b = c then b else 0 | _ => 0)
  else match ks with
    | [a] => oneK k a
    | [a, b] => twoK k a b
    | _ => 0
theorem kindLast_3 (a b c : Int) : kindLast 30 [a, b, c] = if a = 3 ∧ b = c then b else 0 := rfl
theorem kindLast_1 {k : Int} (h : k ≠ 30) (a : Int) : kindLast k [a] = oneK k a := by unfold kindLast; rw [if_neg h]
theorem kindLast_2 {k : Int} (h : k ≠ 30) (a b : Int) : kindLast k [a, b] = twoK k a b := by unfold kindLast; rw [if_neg h]
/-- .. where no kid is wrong -/
def kindFull (k : Int) (b : Bool) (ks : List Int) : Int := if k = 1 then 1 else if k = 2 then 2 else if k = 3 ∨ k = 4 then 3 else if k = 5 ∨ k = 6 then 4 else if k = 7 then (if b = true then 4 else 0) else kindLast k ks
theorem kindV_full {k : Int} {b : Bool} {ks : List Int} (h : ∀ u ∈ ks, u ≠ 0) : kindV k b ks = kindFull k b ks := by
  unfold kindV
  have : ¬ (ks.contains 0 = true) := fun hc => h 0 (by simpa using hc) rfl
  rw [if_neg this]
  rfl
set_option maxRecDepth 20000 in
set_option maxHeartbeats 12800000 in
theorem kind_node (w : World) (hi : Nat) (A : Option Addr) (n c : Nat) (l : List (EN × Sl)) (hl : ExIn w hi ⟨A, n, c⟩ l) (hh : hi ≤ w.heap.size) (ho : OneUp (nodesOf l)) (p : Nat) (hp : p < n) (x : EN × Sl) (hx : l[p]? = some x) (hkv : kidsV x.1.kind = x.1.kids.length)
    (bd : Bool) (hbd : ∀ Y, Below w.heap.size w Y → Calls Tryd.prog 24 #[.agg #[.slice A n c], .int .i64 p, .string x.1.text] Y (TellsB Y bd)) (vals : List Int) (hvl : vals.length = x.1.kids.length) (hvi : ∀ v ∈ vals, 0 ≤ v ∧ v ≤ 5)
    (H : ∀ (j : Nat) (q v : Int) (Y : World), x.1.kids[j]? = some q → vals[j]? = some v → Below w.heap.size w Y → Calls Tryd.prog 20 #[.agg #[.slice A n c], .int .i64 q] Y (SaysB Y v)) (r : Int) (hr : r = kindV x.1.kind bd vals) :
    Calls Tryd.prog 20 #[.agg #[.slice A n c], .int .i64 p] w (SaysB w r) := by
  have hm := hl.max
  unfold maxLen at hm
  obtain ⟨b, o, x', hA, hb, hx', hc, hin, hok⟩ := hl.at_ (i := p) hp
  simp only at hA
  subst hA
  rw [hx] at hx'
  obtain rfl := Option.some.inj hx'
  have HC := Lib.hid hc
  have hbw : b < w.heap.size := by omega
  have hnk := hin.max
  unfold maxLen at hnk
  have HIN := Lib.hid hin
  have HR := Lib.hid hr
  have HVL := Lib.hid hvl
  have HVI := Lib.hid hvi
  have HKV := Lib.hid hkv
  have HBD := Lib.hid hbd
  have HH := Lib.hid H
  have HKN := Lib.hid hin.kn
  have HX0 : Hid (Blk (w.alloc (.cells #[.slice (some ⟨b, o, none⟩) n c] 24)) w.heap.size 24 #[.slice (some ⟨b, o, none⟩) n c]) := Lib.hid (Blk.new _ _ _)
  have HB0 : Hid (Below w.heap.size w (w.alloc (.cells #[.slice (some ⟨b, o, none⟩) n c] 24))) := Lib.hid (below_of_alloc _)
  have HS0 : Hid ((w.alloc (.cells #[.slice (some ⟨b, o, none⟩) n c] 24)).heap.size = w.heap.size + 1) := Lib.hid (by simp)
  clear hl ho hx hx' hc hok hin hr hvl hvi hkv hbd H
  obtain ⟨⟨kd, T, nn, ks⟩, ⟨A', n', c'⟩⟩ := x
  simp only [nodeCs] at hnk HIN HR HVL HKV HBD HH HKN HC
  go_enter Tryd.func20, Tryd.ntmps20
  go_upto_region 1 with (fail)
  generalize w.alloc (.cells #[.slice (some ⟨b, o, none⟩) n c] 24) = W1 at HX0 HB0 HS0 ⊢
  have hc1 := HC.out.below HB0.out hbw
  have c0 := hc1.c0
  have c1 := hc1.c1
  have c2 := hc1.c2
  have c3 := hc1.c3
  simp only at c0 c1 c2 c3
  have cx := (HX0.out.cell 0).trans (show _ = some (.slice (some ⟨b, o, none⟩) n c) from rfl)
  clear hc1
  have hs1 := HS0.out
  have HP0 : Hid (NB w (some ⟨b, o, none⟩) n c (⟨kd, T, nn, ks⟩, ⟨A', n', c'⟩) (W1.alloc (.cells #[.int .i64 kd, .string T, .int .i64 nn, .slice A' n' c'] 46))) := Lib.hid ⟨below_more HB0.out _, HX0.out.alloc _, Blk.new' hs1.symm⟩
  go_upto_region 2 with (fail)
  clear hs1 HS0 c0 c1 c2 c3 cx
  generalize W1.alloc (.cells #[.int .i64 kd, .string T, .int .i64 nn, .slice A' n' c'] 46) = W0 at HP0 ⊢
  go_wp2_with fail
  go_loopw [6, 7, 8] (fun v i _ wr => ∃ (j : Nat) (A3 : Option Addr) (c3 : Nat), j ≤ n' ∧ v = .slice A3 j c3 ∧ i = .int .i64 j ∧ Hid (NB w (some ⟨b, o, none⟩) n c (⟨kd, T, nn, ks⟩, ⟨A', n', c'⟩) wr) ∧ Hid (OwnI wr (w.heap.size + 2) (.slice A3 j c3) (vals.take j)) ∧ Hid (∀ u ∈ vals.take j, u ≠ 0)) (fun _ i _ _ => n' - (intOf i).toNat)
  case atStart => exact ⟨0, none, 0, Nat.zero_le _, rfl, rfl, HP0, Lib.hid ⟨by simp [intCells], .inl ⟨rfl, rfl⟩⟩, Lib.hid (by simp)⟩
  case round =>
    rename World => wo
    obtain ⟨j, A3, c3, hj, rfl, rfl, HP, HOI, HNZ⟩ := hrel
    have q3 := (HP.out.n.cell 3).trans (show _ = some (.slice A' n' c') from rfl)
    by_cases hlt : j < n'
    · obtain ⟨bk, ok, y, hAk, hbk, hy, hcy⟩ := HIN.out.at_ hlt
      simp only at hAk hy
      subst hAk
      have qk := (HP.out.bel.cell (p := ⟨bk, ok + j, none⟩) (show bk < w.heap.size by omega)).trans hcy
      have qe := (HP.out.e.cell 0).trans (show _ = some (.slice (some ⟨b, o, none⟩) n c) from rfl)
      obtain ⟨v, hv⟩ : ∃ v, vals[j]? = some v := ⟨vals[j]'(by have := HVL.out; have := HKN.out; omega), List.getElem?_eq_getElem _⟩
      have HC := Lib.hid (HH.out j y v wo.drew hy hv (HP.out.bel.trans ((drew1_below _).mono HP.out.bel.size)))
      have HV := Lib.hid hv
      clear hcy hy hv
      go_upto_region 6 with (fail)
      refine wp_region_held_tail 6 (fun Y => Y.cell? ⟨w.heap.size, 0, none⟩ = some (.slice (some ⟨b, o, none⟩) n c) ∧ Y.cell? ⟨w.heap.size + 1, 3, none⟩ = some (.slice (some ⟨bk, ok, none⟩) n' c') ∧ Y.cell? ⟨bk, ok + j, none⟩ = some (.int .i64 y)) (by kernel_rfl) (by kernel_rfl) ?hSr (fun hHeld => ?qr0)
      case hSr => exact ⟨qe, q3, qk⟩
      case qr0 =>
        simp only [List.take_succ_cons, List.take_zero, List.drop_succ_cons, List.drop_zero]
        refine wpAnyH_take (i := 0) (v := (.agg #[.slice (some ⟨b, o, none⟩) n c])) rfl (by kernel_rfl) (by kernel_rfl) (by kernel_rfl) (fun _ _ _ h => h) (Or.inl ⟨by rfl, ?yr_1⟩) (by assumption) ?qr_1
        case yr_1 => (intro w hSw; (try dsimp only at hSw); go_simp)
        case qr_1 =>
          (try simp only [Act.put]); (try simp only [List.setIfInBounds_toArray])
          refine wpAnyH_take (i := 1) (v := (.pointer (some ⟨w.heap.size + 1, 3, none⟩))) rfl (by kernel_rfl) (by kernel_rfl) (by kernel_rfl) (fun _ _ _ h => h) (Or.inl ⟨by rfl, ?yr_2⟩) (by assumption) ?qr_2
          case yr_2 => (intro w hSw; (try dsimp only at hSw); go_simp)
          case qr_2 =>
            (try simp only [Act.put]); (try simp only [List.setIfInBounds_toArray])
            refine wpAnyH_take (i := 2) (v := (.slice (some ⟨bk, ok, none⟩) n' c')) rfl (by kernel_rfl) (by kernel_rfl) (by kernel_rfl) (fun _ _ _ h => h) (Or.inl ⟨by rfl, ?yr_3⟩) (by assumption) ?qr_3
            case yr_3 => (intro w hSw; (try dsimp only at hSw); go_simp)
            case qr_3 =>
              (try simp only [Act.put]); (try simp only [List.setIfInBounds_toArray])
              refine wpAnyH_take (i := 3) (v := (.int .i64 j)) rfl (by kernel_rfl) (by kernel_rfl) (by kernel_rfl) (fun _ _ _ h => h) (Or.inl ⟨by rfl, ?yr_4⟩) (by assumption) ?qr_4
              case yr_4 => (intro w hSw; (try dsimp only at hSw); go_simp)
              case qr_4 =>
                (try simp only [Act.put]); (try simp only [List.setIfInBounds_toArray])
                refine wpAnyH_take (i := 4) (v := (.pointer (some ⟨bk, ok + j, none⟩))) rfl (by kernel_rfl) (by kernel_rfl) (by kernel_rfl) (fun _ _ _ h => h) (Or.inl ⟨by rfl, ?yr_5⟩) (by assumption) ?qr_5
                case yr_5 => (intro w hSw; (try dsimp only at hSw); go_simp)
                case qr_5 =>
                  (try simp only [Act.put]); (try simp only [List.setIfInBounds_toArray])
                  refine wpAnyH_take (i := 5) (v := (.int .i64 y)) rfl (by kernel_rfl) (by kernel_rfl) (by kernel_rfl) (fun _ _ _ h => h) (Or.inl ⟨by rfl, ?yr_6⟩) (by assumption) ?qr_6
                  case yr_6 => (intro w hSw; (try dsimp only at hSw); go_simp)
                  case qr_6 =>
                    (try simp only [Act.put]); (try simp only [List.setIfInBounds_toArray])
                    refine wpAnyH_done (by kernel_rfl) ?_ _
                    clear hHeld
                    show wpList _ _ _ _ _ _
                    have HPd := Lib.hid (HP.out.after (drew1_below _))
                    have HOd := Lib.hid (HOI.out.after (drew1_below _))
                    have hsd := HPd.out.two
                    clear qe q3 qk
                    by_cases hv0 : v = 0
                    · subst hv0
                      have HR2 : Hid (r = 0) := Lib.hid (by rw [HR.out]; exact kindV_hole HV.out)
                      go_wp2_with (go_at_call 20; refine HC.out.mono ?_; rintro e w2 ⟨rfl, hb2⟩; have HB2 := Lib.hid (HPd.out.bel.trans (hb2.mono HPd.out.bel.size)); clear hb2)
                      go_ret
                      exact saysB HR2.out.symm HB2.out
                    · have b1 : (v == 0) = false := by rw [beq_eq_false_iff_ne]; exact hv0
                      have HNZ2 := Lib.hid (no_zero_step HNZ.out HV.out hv0)
                      have HLT : Hid ((vals.take j).length = j) := Lib.hid (by rw [List.length_take]; have := HVL.out; have := HKN.out; omega)
                      have hj5 : j ≤ 100 := by
                        have := kidsV_le kd
                        have := HKV.out
                        have := HKN.out
                        omega
                      clear hv0
                      go_upto_region 9 with (go_at_call 20; refine HC.out.mono ?_; rintro e w2 ⟨rfl, hb2⟩; have HP2 := Lib.hid (HPd.out.after hb2); have HO2 := Lib.hid (HOd.out.after hb2); clear hb2)
                      have HP3 := Lib.hid (HP2.out.after (below_of_alloc (X := w2) (.cells #[.int .i64 v] 3)))
                      have hs3 := HP2.out.two
                      go_wp2_with (at_builtin; with_reducible show wpList _ _ _ (⟨some 33, _, _, _, _, _⟩ :: _) _ _; go_must (refine app_int1 (o := ⟨some 33, _, _, _, _, _⟩) rfl (.tmp 30) (.tmp 32) rfl (w.heap.size + 2) (.slice A3 j c3) j (vals.take j) (by go_simp) (OwnI.alloc HO2.out _) HLT.out w2.heap.size v (by go_simp) (Blk.new _ _ _) (by omega) (by simp; omega) ?_; intro A4 c4 w4 hown4 hb4; have HO4 := Lib.hid (show OwnI w4 (w.heap.size + 2) (.slice A4 (j + 1) c4) (vals.take (j + 1)) from by rw [← takeI_snoc HV.out]; exact hown4); have HP4 := Lib.hid (HP3.out.low hb4); clear hown4 hb4))
                      go_roundw
                      case rel => exact ⟨j + 1, A4, c4, by omega, rfl, by go_num, HP4, HO4, HNZ2⟩
                      case measure => simp [intOf]; omega
    · obtain rfl : j = n' := by omega
      have HVF : Hid (r = kindFull kd bd vals) := Lib.hid (by rw [HR.out]; refine kindV_full fun u hu => HNZ.out u ?_; rwa [List.take_of_length_le (by have := HVL.out; have := HKN.out; omega)])
      have q0 := (HP.out.n.cell 0).trans (show _ = some (.int .i64 kd) from rfl)
      have q1 := (HP.out.n.cell 1).trans (show _ = some (.string T) from rfl)
      have hkv2 : kidsV kd = (j : Int) := by have := HKV.out; have := HKN.out; omega
      have hin := kidsV_in' hkv2
      have HKJ := Lib.hid hkv2
      have HVJ : Hid (vals.length = j) := Lib.hid (by have := HVL.out; have := HKN.out; omega)
      have HOJ : Hid (OwnI wo (w.heap.size + 2) (.slice A3 j c3) vals) := Lib.hid (by have := HOI.out; rwa [List.take_of_length_le (by have := HVJ.out; omega)] at this)
      clear hkv2 HOI
      by_cases k1 : kd = 1
      · subst k1
        have HR2 : Hid (r = 1) := Lib.hid (by rw [HVF.out]; unfold kindFull; simp)
        clear hin
        go_wp2_with fail
        go_ret
        exact saysB HR2.out.symm HP.out.bel
      by_cases k2 : kd = 2
      · subst k2
        have HR2 : Hid (r = 2) := Lib.hid (by rw [HVF.out]; unfold kindFull; simp)
        clear hin
        go_wp2_with fail
        go_ret
        exact saysB HR2.out.symm HP.out.bel
      by_cases k3 : kd = 3
      · subst k3
        have HR2 : Hid (r = 3) := Lib.hid (by rw [HVF.out]; unfold kindFull; simp)
        clear hin
        go_wp2_with fail
        go_ret
        exact saysB HR2.out.symm HP.out.bel
      by_cases k4 : kd = 4
      · subst k4
        have HR2 : Hid (r = 3) := Lib.hid (by rw [HVF.out]; unfold kindFull; simp)
        clear hin
        go_wp2_with fail
        go_ret
        exact saysB HR2.out.symm HP.out.bel
      by_cases k5 : kd = 5
      · subst k5
        have HR2 : Hid (r = 4) := Lib.hid (by rw [HVF.out]; unfold kindFull; simp)
        clear hin
        go_wp2_with fail
        go_ret
        exact saysB HR2.out.symm HP.out.bel
      by_cases k6 : kd = 6
      · subst k6
        have HR2 : Hid (r = 4) := Lib.hid (by rw [HVF.out]; unfold kindFull; simp)
        clear hin
        go_wp2_with fail
        go_ret
        exact saysB HR2.out.symm HP.out.bel
      by_cases k7 : kd = 7
      · subst k7
        have HB := Lib.hid (HBD.out wo HP.out.bel)
        have qe := (HP.out.e.cell 0).trans (show _ = some (.slice (some ⟨b, o, none⟩) n c) from rfl)
        clear hin
        cases bd with
        | true =>
          have HR2 : Hid (r = 4) := Lib.hid (by rw [HVF.out]; unfold kindFull; simp)
          go_wp2_with (go_at_call 24; refine HB.out.mono ?_; rintro e w2 ⟨rfl, hb2⟩; have HB2 := Lib.hid (HP.out.bel.trans (hb2.mono HP.out.bel.size)); clear hb2)
          go_ret
          exact saysB HR2.out.symm HB2.out
        | false =>
          have HR2 : Hid (r = 0) := Lib.hid (by rw [HVF.out]; unfold kindFull; simp)
          go_wp2_with (go_at_call 24; refine HB.out.mono ?_; rintro e w2 ⟨rfl, hb2⟩; have HB2 := Lib.hid (HP.out.bel.trans (hb2.mono HP.out.bel.size)); clear hb2)
          go_ret
          exact saysB HR2.out.symm HB2.out
      have b1 : (kd == 1) = false := by rw [beq_eq_false_iff_ne]; exact k1
      have b2 : (kd == 2) = false := by rw [beq_eq_false_iff_ne]; exact k2
      have b3 : (kd == 3) = false := by rw [beq_eq_false_iff_ne]; exact k3
      have b4 : (kd == 4) = false := by rw [beq_eq_false_iff_ne]; exact k4
      have b5 : (kd == 5) = false := by rw [beq_eq_false_iff_ne]; exact k5
      have b6 : (kd == 6) = false := by rw [beq_eq_false_iff_ne]; exact k6
      have b7 : (kd == 7) = false := by rw [beq_eq_false_iff_ne]; exact k7
      have HVF2 : Hid (r = kindLast kd vals) := Lib.hid (by rw [HVF.out]; unfold kindFull; rw [if_neg k1, if_neg k2, if_neg (by omega), if_neg (by omega), if_neg k7])
      by_cases k30 : kd = 30
      · subst k30
        obtain rfl : j = 3 := by have := HKJ.out; unfold kidsV at this; rw [if_neg (by omega), if_neg (by omega), if_neg (by omega), if_pos rfl] at this; omega
        obtain ⟨a, b', c', rfl⟩ : ∃ a b c, vals = [a, b, c] := by
          have := HVJ.out
          match vals, this with
          | [a, b, c], _ => exact ⟨a, b, c, rfl⟩
        obtain ⟨g, rfl, hg1, hg2⟩ := own_someI HOJ.out rfl (by omega)
        unfold maxLen at hg2
        have v0 := own_atI (a := 0) HOJ.out rfl rfl
        have v1 := own_atI (a := 1) HOJ.out rfl rfl
        have v2 := own_atI (a := 2) HOJ.out rfl rfl
        have HR3 : Hid (r = if a = 3 ∧ b' = c' then b' else 0) := Lib.hid (by rw [HVF2.out, kindLast_3])
        clear hin
        by_cases a3 : a = 3
        · have d1 : (a == 3) = true := by rw [a3]; rfl
          by_cases bc : b' = c'
          · have d2 : (b' == c') = true := by rw [bc]; simp
            have HR2 : Hid (r = b') := Lib.hid (by rw [HR3.out, if_pos ⟨a3, bc⟩])
            clear a3 bc
            go_wp2_with fail
            go_quiet (fail)
            go_wp2_with fail
            go_ret
            exact saysB HR2.out.symm (below_drewN HP.out.bel _)
          · have d2 : (b' == c') = false := by rw [beq_eq_false_iff_ne]; exact bc
            have HR2 : Hid (r = 0) := Lib.hid (by rw [HR3.out, if_neg fun h => bc h.2])
            clear a3 bc
            go_wp2_with fail
            go_quiet (fail)
            go_wp2_with fail
            go_ret
            exact saysB HR2.out.symm (below_drewN HP.out.bel _)
        · have d1 : (a == 3) = false := by rw [beq_eq_false_iff_ne]; exact a3
          have HR2 : Hid (r = 0) := Lib.hid (by rw [HR3.out, if_neg fun h => a3 h.1])
          clear a3
          go_wp2_with fail
          go_quiet (fail)
          go_wp2_with fail
          go_ret
          exact saysB HR2.out.symm (below_drewN HP.out.bel _)
      have b30 : (kd == 30) = false := by rw [beq_eq_false_iff_ne]; exact k30
      by_cases kone : kd ≤ 19 ∨ kd = 29
      · obtain rfl : j = 1 := by have := HKJ.out; unfold kidsV at this; rw [if_neg (by omega), if_neg (by omega), if_pos kone] at this; omega
        obtain ⟨a, rfl⟩ : ∃ a, vals = [a] := by
          have := HVJ.out
          match vals, this with
          | [a], _ => exact ⟨a, rfl⟩
        obtain ⟨g, rfl, hg1, hg2⟩ := own_someI HOJ.out rfl (by omega)
        unfold maxLen at hg2
        have v0 := own_atI (a := 0) HOJ.out rfl rfl
        have HR2 : Hid (oneK kd a = r) := Lib.hid (by rw [HVF2.out, kindLast_1 k30])
        have HC1 : Hid (∀ Y, Calls Tryd.prog 32 #[.int .i64 kd, .int .i64 a] Y (SaysI Y r)) := Lib.hid fun Y => by rw [← HR2.out]; exact one_any kd a Y (by omega)
        clear hin k1 k2 k3 k4 k5 k6 k7 k30 kone
        go_wp2_with fail
        go_quiet ((go_at_call 32; exact Calls.quiet_of_same (HC1.out _)))
        go_wp2_with fail
        go_ret
        exact saysB rfl (below_drewN HP.out.bel _)
      obtain rfl : j = 2 := by have := HKJ.out; unfold kidsV at this; rw [if_neg (by omega), if_neg (by omega), if_neg kone, if_neg k30] at this; omega
      obtain ⟨a, b', rfl⟩ : ∃ a b, vals = [a, b] := by
        have := HVJ.out
        match vals, this with
        | [a, b], _ => exact ⟨a, b, rfl⟩
      obtain ⟨g, rfl, hg1, hg2⟩ := own_someI HOJ.out rfl (by omega)
      unfold maxLen at hg2
      have v0 := own_atI (a := 0) HOJ.out rfl rfl
      have v1 := own_atI (a := 1) HOJ.out rfl rfl
      have HR2 : Hid (twoK kd a b' = r) := Lib.hid (by rw [HVF2.out, kindLast_2 k30])
      have HC1 : Hid (∀ Y, Calls Tryd.prog 33 #[.int .i64 kd, .int .i64 a, .int .i64 b'] Y (SaysI Y r)) := Lib.hid fun Y => by rw [← HR2.out]; exact two_any kd a b' Y (by omega)
      clear hin k1 k2 k3 k4 k5 k6 k7 k30 kone
      go_wp2_with fail
      go_quiet ((go_at_call 33; exact Calls.quiet_of_same (HC1.out _)))
      go_wp2_with fail
      go_ret
      exact saysB rfl (below_drewN HP.out.bel _)
end Go.Proofs.YtjlpoigcalfdlaaDoor

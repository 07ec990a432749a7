/-
  WALKS over the document's answers for layer 9: Kind of every node; wrong.
-/
import Derived.Test.YtjlpoigcalfdlaaDoorZA18
namespace Go.Proofs.YtjlpoigcalfdlaaDoor
open Go Go.RowKit Go.Sort
set_option linter.unusedVariables false
theorem kinds_any (w : World) (hi : Nat) (A : Option Addr) (n c : Nat) (l : List (EN × Sl)) (hl : ExIn w hi ⟨A, n, c⟩ l) (hh : hi ≤ w.heap.size) (ho : OneUp (nodesOf l)) (hs : Sound (nodesOf l)) :
    ∀ (f : Fo) (p : Nat) (e : Nat → Bnd), At (nodesOf l) p f → EnvF (nodesOf l) p f e → ∀ (j : Nat) (q v : Int), (f.offs p)[j]? = some q → (f.kr e)[j]? = some v → ∀ Y, Below w.heap.size w Y →
      Calls Tryd.prog 20 #[.agg #[.slice A n c], .int .i64 q] Y (SaysB Y v)
  | .nil, p, e, _, _, j, q, v, h1, _, _, _ => by simp [Fo.offs] at h1
  | .cons k s i a r, p, e, ⟨t1, t2, t3⟩, ⟨e1, e2, e3⟩, 0, q, v, h1, h2, Y, hY => by
    simp only [Fo.offs, Fo.kr, List.getElem?_cons_zero, Option.some.injEq] at h1 h2
    subst h1
    obtain ⟨x, hx, hx1⟩ := nodesOf_of t1
    have hpn : p < n := by have := (List.getElem?_eq_some_iff.1 hx).1; have h3 : n = l.length := hl.g.n; omega
    have hk := sound_kids (hs _ (List.mem_of_getElem? t1))
    have hlY := hl.below (hY.mono hh)
    have hhY := Nat.le_trans hh hY.size
    have hkind : x.1.kind = k := by rw [hx1]
    have htext : x.1.text = s := by rw [hx1]
    have hkids : x.1.kids = a.offs (p + 1) := by rw [hx1]
    refine kind_node Y hi A n c l hlY hhY ho p hpn x hx (by rw [hkind, hkids]; exact hk) ((e 0).contains s.data.toList) ?_ (a.kr (inner k s (e 0))) (by rw [hkids, kr_len, offs_len]) (kr_in a _) ?_ v (by rw [hkind]; exact h2.symm)
    · intro Z hZ
      rw [htext]
      exact bound_any Z hi A n c l (hlY.below (hZ.mono hhY)) (Nat.le_trans hhY hZ.size) ho p s (e 0) e1 hpn _ (Lib.hid rfl)
    · intro j q v Z h3 h4 hZ
      rw [hkids] at h3
      exact kinds_any w hi A n c l hl hh ho hs a (p + 1) _ t2 e2 j q v h3 h4 Z (hY.trans (hZ.mono hY.size))
  | .cons k s i a r, p, e, ⟨t1, t2, t3⟩, ⟨e1, e2, e3⟩, j + 1, q, v, h1, h2, Y, hY => by
    simp only [Fo.offs, Fo.kr, List.getElem?_cons_succ] at h1 h2
    exact kinds_any w hi A n c l hl hh ho hs r (p + 1 + a.size) _ t3 e3 j q v h1 h2 Y hY
/-- .. of every node -/
theorem kind_all (w : World) (hi : Nat) (A : Option Addr) (n c : Nat) (l : List (EN × Sl)) (hl : ExIn w hi ⟨A, n, c⟩ l) (hh : hi ≤ w.heap.size) (ho : OneUp (nodesOf l)) (hs : Sound (nodesOf l)) :
    ∀ (f : Fo) (p : Nat) (e : Nat → Bnd), At (nodesOf l) p f → EnvF (nodesOf l) p f e → ∀ (j : Nat) (v : Int), (f.ka e)[j]? = some v → ∀ Y, Below w.heap.size w Y →
      Calls Tryd.prog 20 #[.agg #[.slice A n c], .int .i64 ((p + j : Nat) : Int)] Y (SaysB Y v)
  | .nil, p, e, _, _, j, v, h1, _, _ => by simp [Fo.ka] at h1
  | .cons k s i a r, p, e, ⟨t1, t2, t3⟩, ⟨e1, e2, e3⟩, j, v, h1, Y, hY => by
    simp only [Fo.ka] at h1
    match j, h1 with
    | 0, h1 =>
      simp only [List.getElem?_cons_zero] at h1
      exact kinds_any w hi A n c l hl hh ho hs (.cons k s i a r) p e ⟨t1, t2, t3⟩ ⟨e1, e2, e3⟩ 0 p v rfl h1 Y hY
    | j + 1, h1 =>
      simp only [List.getElem?_cons_succ] at h1
      by_cases hj : j < (a.ka (inner k s (e 0))).length
      · rw [List.getElem?_append_left hj] at h1
        have := kind_all w hi A n c l hl hh ho hs a (p + 1) _ t2 e2 j v h1 Y hY
        rwa [show p + 1 + j = p + (j + 1) from by omega] at this
      · rw [List.getElem?_append_right (by omega), ka_len] at h1
        rw [ka_len] at hj
        have := kind_all w hi A n c l hl hh ho hs r (p + 1 + a.size) _ t3 e3 (j - a.size) v h1 Y hY
        rwa [show p + 1 + a.size + (j - a.size) = p + (j + 1) from by omega] at this
def firstS : List (Option Nat) → Option Nat
  | [] => none
  | some q :: _ => some q
  | none :: r => firstS r
def encW : Option Nat → Int
  | none => -1
  | some q => q
/-- the first that is wrong, of each tree of a row -/
def Fo.ws : Fo → Nat → (Nat → Bnd) → List (Option Nat)
  | .nil, _, _ => []
  | .cons k s _ a r, p, e => (match firstS (a.ws (p + 1) (inner k s (e 0))) with
    | some q => some q
    | none => if kindV k ((e 0).contains s.data.toList) (a.kr (inner k s (e 0))) = 0 then some p else none) :: r.ws (p + 1 + a.size) (fun j => e (j + 1))
theorem ws_len : ∀ (f : Fo) (p : Nat) (e : Nat → Bnd), (f.ws p e).length = f.count
  | .nil, _, _ => rfl
  | .cons k s i a r, p, e => by simp only [Fo.ws, Fo.count, List.length_cons, ws_len r]; omega
theorem ws_first : ∀ (f : Fo) (p : Nat) (e : Nat → Bnd), firstS (f.ws p e) = f.wr p e
  | .nil, _, _ => rfl
  | .cons k s i a r, p, e => by
    simp only [Fo.ws, Fo.wr, ws_first a]
    cases ha : a.wr (p + 1) (inner k s (e 0)) with
    | some q => rfl
    | none =>
      simp only
      by_cases h0 : kindV k ((e 0).contains s.data.toList) (a.kr (inner k s (e 0))) = 0
      · rw [if_pos h0, if_pos h0]; rfl
      · rw [if_neg h0, if_neg h0]; exact ws_first r _ _
theorem wr_lt : ∀ (f : Fo) (p : Nat) (e : Nat → Bnd) (q : Nat), f.wr p e = some q → p ≤ q ∧ q < p + f.size
  | .nil, _, _, _, h => by simp [Fo.wr] at h
  | .cons k s i a r, p, e, q, h => by
    simp only [Fo.wr] at h
    simp only [Fo.size]
    cases ha : a.wr (p + 1) (inner k s (e 0)) with
    | some q' =>
      rw [ha] at h
      obtain rfl := Option.some.inj h
      have := wr_lt a _ _ _ ha; omega
    | none =>
      rw [ha] at h
      simp only at h
      by_cases h0 : kindV k ((e 0).contains s.data.toList) (a.kr (inner k s (e 0))) = 0
      · rw [if_pos h0] at h; obtain rfl := Option.some.inj h; omega
      · rw [if_neg h0] at h; have := wr_lt r _ _ _ h; omega
theorem firstS_hit {l : List (Option Nat)} {j q : Nat} (h : ∀ u ∈ l.take j, u = none) (hq : l[j]? = some (some q)) : firstS l = some q := by
  induction l generalizing j with
  | nil => simp at hq
  | cons x l ih =>
    cases j with
    | zero => simp at hq; subst hq; rfl
    | succ j =>
      have := h x (by simp)
      subst this
      exact ih (j := j) (fun u hu => h u (by simp [hu])) (by simpa using hq)
theorem firstS_none {l : List (Option Nat)} (h : ∀ u ∈ l, u = none) : firstS l = none := by
  induction l with
  | nil => rfl
  | cons x l ih =>
    have := h x (by simp)
    subst this
    exact ih fun u hu => h u (by simp [hu])
theorem none_step {l : List (Option Nat)} {j : Nat} (h : ∀ u ∈ l.take j, u = none) (hv : l[j]? = some none) : ∀ u ∈ l.take (j + 1), u = none := by
  intro u hu
  rw [List.take_add_one, hv, List.mem_append] at hu
  rcases hu with hu | hu
  · exact h u hu
  · simpa using hu
set_option maxRecDepth 20000 in
set_option maxHeartbeats 6400000 in
theorem wrong_node (w : World) (hi : Nat) (A : Option Addr) (n c : Nat) (l : List (EN × Sl)) (hl : ExIn w hi ⟨A, n, c⟩ l) (hh : hi ≤ w.heap.size) (p : Nat) (hp : p < n) (x : EN × Sl) (hx : l[p]? = some x) (hkv : kidsV x.1.kind = x.1.kids.length)
    (kv : Int) (hkd : ∀ Y, Below w.heap.size w Y → Calls Tryd.prog 20 #[.agg #[.slice A n c], .int .i64 p] Y (SaysB Y kv)) (vals : List (Option Nat)) (hvl : vals.length = x.1.kids.length)
    (H : ∀ (j : Nat) (q : Int) (v : Option Nat) (Y : World), x.1.kids[j]? = some q → vals[j]? = some v → Below w.heap.size w Y → Calls Tryd.prog 19 #[.agg #[.slice A n c], .int .i64 q] Y (SaysB Y (encW v))) (r : Option Nat) (hr : r = match firstS vals with | some q => some q | none => if kv = 0 then some p else none) :
    Calls Tryd.prog 19 #[.agg #[.slice A n c], .int .i64 p] w (SaysB w (encW r)) := by
  have hm := hl.max
  unfold maxLen at hm
  obtain ⟨b, o, x', hA, hb, hx', hc, hin, hok⟩ := hl.at_ (i := p) hp
  simp only at hA
  subst hA
  rw [hx] at hx'
  obtain rfl := Option.some.inj hx'
  have HC := Lib.hid hc
  have hbw : b < w.heap.size := by omega
  have hnk := hin.max
  unfold maxLen at hnk
  have HIN := Lib.hid hin
  have HR1 : Hid (∀ q, firstS vals = some q → r = some q) := Lib.hid fun q h => by rw [hr, h]
  have HR2 : Hid (firstS vals = none → kv = 0 → r = some p) := Lib.hid fun h h0 => by rw [hr, h]; exact if_pos h0
  have HR3 : Hid (firstS vals = none → kv ≠ 0 → r = none) := Lib.hid fun h h0 => by rw [hr, h]; exact if_neg h0
  have HVL := Lib.hid hvl
  have HKD := Lib.hid hkd
  have HH := Lib.hid H
  have HKN := Lib.hid hin.kn
  have HX0 : Hid (Blk (w.alloc (.cells #[.slice (some ⟨b, o, none⟩) n c] 24)) w.heap.size 24 #[.slice (some ⟨b, o, none⟩) n c]) := Lib.hid (Blk.new _ _ _)
  have HB0 : Hid (Below w.heap.size w (w.alloc (.cells #[.slice (some ⟨b, o, none⟩) n c] 24))) := Lib.hid (below_of_alloc _)
  have HS0 : Hid ((w.alloc (.cells #[.slice (some ⟨b, o, none⟩) n c] 24)).heap.size = w.heap.size + 1) := Lib.hid (by simp)
  clear hl hx hx' hc hok hin hr hvl hkv hkd H
  obtain ⟨⟨kd, T, nn, ks⟩, ⟨A', n', c'⟩⟩ := x
  simp only [nodeCs] at hnk HIN HVL HH HKN HC
  go_enter Tryd.func19, Tryd.ntmps19
  go_upto_region 1 with (fail)
  generalize w.alloc (.cells #[.slice (some ⟨b, o, none⟩) n c] 24) = W1 at HX0 HB0 HS0 ⊢
  have hc1 := HC.out.below HB0.out hbw
  have c0 := hc1.c0
  have c1 := hc1.c1
  have c2 := hc1.c2
  have c3 := hc1.c3
  simp only at c0 c1 c2 c3
  have cx := (HX0.out.cell 0).trans (show _ = some (.slice (some ⟨b, o, none⟩) n c) from rfl)
  clear hc1
  have hs1 := HS0.out
  have HP0 : Hid (NB w (some ⟨b, o, none⟩) n c (⟨kd, T, nn, ks⟩, ⟨A', n', c'⟩) (W1.alloc (.cells #[.int .i64 kd, .string T, .int .i64 nn, .slice A' n' c'] 46))) := Lib.hid ⟨below_more HB0.out _, HX0.out.alloc _, Blk.new' hs1.symm⟩
  go_upto_region 2 with (fail)
  clear hs1 HS0 c0 c1 c2 c3 cx
  generalize W1.alloc (.cells #[.int .i64 kd, .string T, .int .i64 nn, .slice A' n' c'] 46) = W0 at HP0 ⊢
  go_wp2_with fail
  go_loopw [6, 7] (fun i _ wr => ∃ (j : Nat), j ≤ n' ∧ i = .int .i64 j ∧ Hid (NB w (some ⟨b, o, none⟩) n c (⟨kd, T, nn, ks⟩, ⟨A', n', c'⟩) wr) ∧ Hid (∀ u ∈ vals.take j, u = none)) (fun i _ _ => n' - (intOf i).toNat)
  case atStart => exact ⟨0, Nat.zero_le _, rfl, HP0, Lib.hid (by simp)⟩
  case round =>
    rename World => wo
    obtain ⟨j, hj, rfl, HP, HNZ⟩ := hrel
    have q3 := (HP.out.n.cell 3).trans (show _ = some (.slice A' n' c') from rfl)
    have qe := (HP.out.e.cell 0).trans (show _ = some (.slice (some ⟨b, o, none⟩) n c) from rfl)
    by_cases hlt : j < n'
    · obtain ⟨bk, ok, y, hAk, hbk, hy, hcy⟩ := HIN.out.at_ hlt
      simp only at hAk hy
      subst hAk
      have qk := (HP.out.bel.cell (p := ⟨bk, ok + j, none⟩) (show bk < w.heap.size by omega)).trans hcy
      obtain ⟨v, hv⟩ : ∃ v, vals[j]? = some v := ⟨vals[j]'(by have := HVL.out; have := HKN.out; omega), List.getElem?_eq_getElem _⟩
      have HC2 := Lib.hid (HH.out j y v wo.drew hy hv (HP.out.bel.trans ((drew1_below _).mono HP.out.bel.size)))
      have HV := Lib.hid hv
      clear hcy hy hv
      go_upto_region 5 with (fail)
      refine wp_region_held_tail 6 (fun Y => Y.cell? ⟨w.heap.size, 0, none⟩ = some (.slice (some ⟨b, o, none⟩) n c) ∧ Y.cell? ⟨w.heap.size + 1, 3, none⟩ = some (.slice (some ⟨bk, ok, none⟩) n' c') ∧ Y.cell? ⟨bk, ok + j, none⟩ = some (.int .i64 y)) (by kernel_rfl) (by kernel_rfl) ?hSr (fun hHeld => ?qr0)
      case hSr => exact ⟨qe, q3, qk⟩
      case qr0 =>
        simp only [List.take_succ_cons, List.take_zero, List.drop_succ_cons, List.drop_zero]
        refine wpAnyH_take (i := 0) (v := (.agg #[.slice (some ⟨b, o, none⟩) n c])) rfl (by kernel_rfl) (by kernel_rfl) (by kernel_rfl) (fun _ _ _ h => h) (Or.inl ⟨by rfl, ?yr_1⟩) (by assumption) ?qr_1
        case yr_1 => (intro w hSw; (try dsimp only at hSw); go_simp)
        case qr_1 =>
          (try simp only [Act.put]); (try simp only [List.setIfInBounds_toArray])
          refine wpAnyH_take (i := 1) (v := (.pointer (some ⟨w.heap.size + 1, 3, none⟩))) rfl (by kernel_rfl) (by kernel_rfl) (by kernel_rfl) (fun _ _ _ h => h) (Or.inl ⟨by rfl, ?yr_2⟩) (by assumption) ?qr_2
          case yr_2 => (intro w hSw; (try dsimp only at hSw); go_simp)
          case qr_2 =>
            (try simp only [Act.put]); (try simp only [List.setIfInBounds_toArray])
            refine wpAnyH_take (i := 2) (v := (.slice (some ⟨bk, ok, none⟩) n' c')) rfl (by kernel_rfl) (by kernel_rfl) (by kernel_rfl) (fun _ _ _ h => h) (Or.inl ⟨by rfl, ?yr_3⟩) (by assumption) ?qr_3
            case yr_3 => (intro w hSw; (try dsimp only at hSw); go_simp)
            case qr_3 =>
              (try simp only [Act.put]); (try simp only [List.setIfInBounds_toArray])
              refine wpAnyH_take (i := 3) (v := (.int .i64 j)) rfl (by kernel_rfl) (by kernel_rfl) (by kernel_rfl) (fun _ _ _ h => h) (Or.inl ⟨by rfl, ?yr_4⟩) (by assumption) ?qr_4
              case yr_4 => (intro w hSw; (try dsimp only at hSw); go_simp)
              case qr_4 =>
                (try simp only [Act.put]); (try simp only [List.setIfInBounds_toArray])
                refine wpAnyH_take (i := 4) (v := (.pointer (some ⟨bk, ok + j, none⟩))) rfl (by kernel_rfl) (by kernel_rfl) (by kernel_rfl) (fun _ _ _ h => h) (Or.inl ⟨by rfl, ?yr_5⟩) (by assumption) ?qr_5
                case yr_5 => (intro w hSw; (try dsimp only at hSw); go_simp)
                case qr_5 =>
                  (try simp only [Act.put]); (try simp only [List.setIfInBounds_toArray])
                  refine wpAnyH_take (i := 5) (v := (.int .i64 y)) rfl (by kernel_rfl) (by kernel_rfl) (by kernel_rfl) (fun _ _ _ h => h) (Or.inl ⟨by rfl, ?yr_6⟩) (by assumption) ?qr_6
                  case yr_6 => (intro w hSw; (try dsimp only at hSw); go_simp)
                  case qr_6 =>
                    (try simp only [Act.put]); (try simp only [List.setIfInBounds_toArray])
                    refine wpAnyH_done (by kernel_rfl) ?_ _
                    clear hHeld
                    show wpList _ _ _ _ _ _
                    have HPd := Lib.hid (HP.out.after (drew1_below _))
                    clear qe q3 qk
                    cases v with
                    | some q =>
                      have HR2 : Hid (r = some q) := Lib.hid (HR1.out q (firstS_hit HNZ.out HV.out))
                      have b1 : decide ((0 : Int) ≤ (q : Int)) = true := by simp
                      have HC3 : Hid (Calls Tryd.prog 19 #[.agg #[.slice (some ⟨b, o, none⟩) n c], .int .i64 y] wo.drew (SaysB wo.drew q)) := Lib.hid HC2.out
                      go_wp2_with (go_at_call 19; refine HC3.out.mono ?_; rintro e w2 ⟨rfl, hb2⟩; have HB2 := Lib.hid (HPd.out.bel.trans (hb2.mono HPd.out.bel.size)); clear hb2)
                      go_ret
                      exact saysB (by rw [HR2.out]; rfl) HB2.out
                    | none =>
                      have HNZ2 := Lib.hid (none_step HNZ.out HV.out)
                      have HC3 : Hid (Calls Tryd.prog 19 #[.agg #[.slice (some ⟨b, o, none⟩) n c], .int .i64 y] wo.drew (SaysB wo.drew (-1))) := Lib.hid HC2.out
                      go_wp2_with (go_at_call 19; refine HC3.out.mono ?_; rintro e w2 ⟨rfl, hb2⟩; have HP2 := Lib.hid (HPd.out.after hb2); clear hb2)
                      go_roundw
                      case rel => exact ⟨j + 1, by omega, by go_num, HP2, HNZ2⟩
                      case measure => simp [intOf]; omega
    · obtain rfl : j = n' := by omega
      have HNA : Hid (firstS vals = none) := Lib.hid (firstS_none (by have := HNZ.out; rwa [List.take_of_length_le (by have := HVL.out; have := HKN.out; omega)] at this))
      have HK := Lib.hid (HKD.out wo HP.out.bel)
      by_cases h0 : kv = 0
      · subst h0
        have HR4 := Lib.hid (HR2.out HNA.out rfl)
        go_wp2_with (go_at_call 20; refine HK.out.mono ?_; rintro e w2 ⟨rfl, hb2⟩; have HB2 := Lib.hid (HP.out.bel.trans (hb2.mono HP.out.bel.size)); clear hb2)
        go_ret
        exact saysB (by rw [HR4.out]; rfl) HB2.out
      · have b1 : (kv == 0) = false := by rw [beq_eq_false_iff_ne]; exact h0
        have HR4 := Lib.hid (HR3.out HNA.out h0)
        clear h0
        go_wp2_with (go_at_call 20; refine HK.out.mono ?_; rintro e w2 ⟨rfl, hb2⟩; have HB2 := Lib.hid (HP.out.bel.trans (hb2.mono HP.out.bel.size)); clear hb2)
        go_ret
        exact saysB (by rw [HR4.out]; rfl) HB2.out
theorem wrongs_any (w : World) (hi : Nat) (A : Option Addr) (n c : Nat) (l : List (EN × Sl)) (hl : ExIn w hi ⟨A, n, c⟩ l) (hh : hi ≤ w.heap.size) (ho : OneUp (nodesOf l)) (hs : Sound (nodesOf l)) :
    ∀ (f : Fo) (p : Nat) (e : Nat → Bnd), At (nodesOf l) p f → EnvF (nodesOf l) p f e → ∀ (j : Nat) (q : Int) (v : Option Nat), (f.offs p)[j]? = some q → (f.ws p e)[j]? = some v → ∀ Y, Below w.heap.size w Y →
      Calls Tryd.prog 19 #[.agg #[.slice A n c], .int .i64 q] Y (SaysB Y (encW v))
  | .nil, p, e, _, _, j, q, v, h1, _, _, _ => by simp [Fo.offs] at h1
  | .cons k s i a r, p, e, ⟨t1, t2, t3⟩, ⟨e1, e2, e3⟩, 0, q, v, h1, h2, Y, hY => by
    simp only [Fo.offs, Fo.ws, List.getElem?_cons_zero, Option.some.injEq] at h1 h2
    subst h1
    obtain ⟨x, hx, hx1⟩ := nodesOf_of t1
    have hpn : p < n := by have := (List.getElem?_eq_some_iff.1 hx).1; have h3 : n = l.length := hl.g.n; omega
    have hk := sound_kids (hs _ (List.mem_of_getElem? t1))
    have hlY := hl.below (hY.mono hh)
    have hhY := Nat.le_trans hh hY.size
    have hkind : x.1.kind = k := by rw [hx1]
    have hkids : x.1.kids = a.offs (p + 1) := by rw [hx1]
    refine wrong_node Y hi A n c l hlY hhY p hpn x hx (by rw [hkind, hkids]; exact hk) (kindV k ((e 0).contains s.data.toList) (a.kr (inner k s (e 0)))) ?_ (a.ws (p + 1) (inner k s (e 0))) (by rw [hkids, ws_len, offs_len]) ?_ v h2.symm
    · intro Z hZ
      exact kinds_any w hi A n c l hl hh ho hs (.cons k s i a r) p e ⟨t1, t2, t3⟩ ⟨e1, e2, e3⟩ 0 p _ rfl rfl Z (hY.trans (hZ.mono hY.size))
    · intro j q v Z h3 h4 hZ
      rw [hkids] at h3
      exact wrongs_any w hi A n c l hl hh ho hs a (p + 1) _ t2 e2 j q v h3 h4 Z (hY.trans (hZ.mono hY.size))
  | .cons k s i a r, p, e, ⟨t1, t2, t3⟩, ⟨e1, e2, e3⟩, j + 1, q, v, h1, h2, Y, hY => by
    simp only [Fo.offs, Fo.ws, List.getElem?_cons_succ] at h1 h2
    exact wrongs_any w hi A n c l hl hh ho hs r (p + 1 + a.size) _ t3 e3 j q v h1 h2 Y hY
end Go.Proofs.YtjlpoigcalfdlaaDoor

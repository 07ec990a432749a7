/-
  WALK of the law LexParts.
-/
import Derived.Test.YtinhlemebnlijaaDoorY16
import Derived.Test.YtinhlemebnlijaaDoorY17
import Derived.Test.YtinhlemebnlijaaDoorYE
namespace Go.Proofs.YtinhlemebnlijaaDoor
open Go Go.RowKit
set_option linter.unusedVariables false
/-- a part of a list in memory: the first ones, the others -/
theorem TokIn.first {w : World} {hi n c k : Nat} {A : Option Addr} {l m : List Tok} (h : TokIn w hi A n c (l ++ m)) (hk : l.length = k) (c' : Nat) (hc : k ≤ c') (hc' : c' ≤ maxLen) : TokIn w hi A k c' l := by
  refine ⟨by rw [toksCells_len, hk], hc, hc', fun h0 => ?_⟩
  have hl := h.len
  rw [List.length_append] at hl
  obtain ⟨b, o, e, h1, h2, hcell⟩ := Row.at_ h (by omega)
  refine ⟨b, o, e, h1, h2, fun j u hu => hcell j u ?_⟩
  unfold toksCells at hu ⊢
  rw [List.flatMap_append, List.getElem?_append_left (List.getElem?_eq_some_iff.1 hu).1]
  exact hu
theorem TokIn.others {w : World} {hi n c k b o : Nat} {l m : List Tok} (h : TokIn w hi (some ⟨b, o, none⟩) n c (l ++ m)) (hk : l.length = k) (n' c' : Nat) (hn : m.length = n') (hc : n' ≤ c') (hc' : c' ≤ maxLen) : TokIn w hi (some ⟨b, o + k * 4, none⟩) n' c' m := by
  refine ⟨by rw [toksCells_len, hn], hc, hc', fun h0 => ?_⟩
  have hl := h.len
  rw [List.length_append] at hl
  obtain ⟨b', o', e, h1, h2, hcell⟩ := Row.at_ h (by omega)
  injection e with e
  injection e with e1 e2
  subst e1 e2
  refine ⟨b, _, rfl, h1, h2, fun j u hu => ?_⟩
  have := hcell (k * 4 + j) u (by
    unfold toksCells at hu ⊢
    rw [List.flatMap_append, List.getElem?_append_right (by have := toksCells_len l; unfold toksCells at this; omega)]
    have e3 : k * 4 + j - (l.flatMap tokCells).length = j := by have := toksCells_len l; unfold toksCells at this; omega
    rw [e3]; exact hu)
  rwa [← Nat.add_assoc] at this
/-- Scan's answer as a row in memory, whose address is known -/
def ScanRow (w : World) (l : List Tok) (n c : Int) (e : Ending) (w' : World) : Prop :=
  ∃ A k, e = .returned (.tuple #[.slice A l.length k, .int .i64 n, .int .i64 c]) ∧ (A = none ∧ k = 0 ∧ l = [] ∨ ∃ g, A = some ⟨g, 0, none⟩) ∧ TokIn w' w'.heap.size A l.length k l ∧ Below w.heap.size w w'
theorem scan_row {s : ByteArray} {l : List Tok} {n : Nat} {c : Int} {w : World} (hs : s.size ≤ 140737488355328) (hE : ScanEnv w) (h : scanR s.data.toList = (l, n, c)) : Calls Tryd.prog 9 #[.string s] w (ScanRow w l n c) :=
  (scan_is hs hE h).mono fun e w' ⟨A, k, he, ho, hb⟩ => ⟨A, k, he, by
    rcases ho.2 with ⟨hv, hn⟩ | ⟨g, cap, cur, hv, _⟩
    · injection hv with h1 h2 h3; exact .inl ⟨h1, h3, List.length_eq_zero_iff.1 hn⟩
    · injection hv with h1 h2 h3; exact .inr ⟨g, h1⟩, own_tokIn ho rfl, hb⟩
theorem TokIn.after {w w' : World} {n c : Nat} {A : Option Addr} {l : List Tok} (h : TokIn w w.heap.size A n c l) (hb : Below w.heap.size w w') : TokIn w' w'.heap.size A n c l :=
  (h.below hb).mono (Nat.le_refl _) hb.size
theorem scanT_place : ∀ (d p : Nat) (r : List UInt8) (l : List Tok), r.length ≤ d → scanT p r = (some l, 0) → ∀ k ∈ l, (p : Int) ≤ k.place ∧ k.place ≤ (p + r.length : Nat) := by
  intro d
  induction d with
  | zero =>
    intro p r l hd h
    obtain rfl : r = [] := List.length_eq_zero_iff.1 (by omega)
    rw [scanT_nil] at h
    simp only [Prod.mk.injEq, Option.some.injEq, and_true] at h
    subst h
    simp
  | succ d ih =>
    intro p r l hd h
    rcases scanT_ways r with rfl | ⟨c, t, rfl, hc⟩ | ⟨c, t, k, n, rfl, hc, hk⟩ | ⟨c, t, n, rfl, hc, hk⟩
    · rw [scanT_nil] at h
      simp only [Prod.mk.injEq, Option.some.injEq, and_true] at h
      subst h
      simp
    · rw [scanT_blank hc] at h
      intro k hk
      have := ih _ _ _ (by simp at hd; omega) h k hk
      rw [List.length_cons]
      omega
    · have hl := lexT_len hk
      rw [scanT_tok hc hk] at h
      rcases hs : scanT (p + n) ((c :: t).drop n) with ⟨o, j⟩
      rw [hs] at h
      cases o with
      | none => simp [ahd] at h
      | some l' =>
        have := scanT_zero _ _ _ _ _ (Nat.le_refl _) hs
        subst this
        simp only [ahd, Prod.mk.injEq, Option.some.injEq, and_true] at h
        subst h
        intro x hx
        rcases List.mem_cons.1 hx with rfl | hx
        · simp only [Tok.at]; omega
        · have := ih _ _ _ (by rw [List.length_drop]; omega) hs x hx
          rw [List.length_drop] at this
          omega
    · rw [scanT_bad hc hk] at h; simp at h
/-- the same, its list's length named -/
def ScanRowN (w : World) (l : List Tok) (N : Nat) (e : Ending) (w' : World) : Prop :=
  ∃ A k, e = .returned (.tuple #[.slice A N k, .int .i64 0, .int .i64 0]) ∧ (A = none ∧ k = 0 ∧ l = [] ∨ ∃ g, A = some ⟨g, 0, none⟩) ∧ TokIn w' w'.heap.size A N k l ∧ Below w.heap.size w w'
theorem part_list (a b : ByteArray) : (a ++ (⟨#[32]⟩ : ByteArray) ++ b).data.toList = a.data.toList ++ 32 :: b.data.toList := by
  rw [cat_list, cat_list]; simp
set_option maxHeartbeats 3200000 in
theorem parts_long (a b : ByteArray) (w : World) (ha : a.size ≤ 140737488355328) (hb : b.size ≤ 140737488355328) (hE : ScanEnv w) (h : ¬ (a.size + b.size + 1 ≤ 4096)) : Calls Tryd.prog 8 #[.string a, .string b] w (Tells1 w true) := by
  have HA : Hid (Calls Tryd.prog 14 #[] w (Tells1 w true)) := Lib.hid (awake_any w hE)
  clear hE
  have hc : (4096 : Int) < (a.size : Int) ∨ (¬ (4096 : Int) < (a.size : Int) ∧ (4096 : Int) < (b.size : Int)) ∨ (¬ (4096 : Int) < (a.size : Int) ∧ ¬ (4096 : Int) < (b.size : Int) ∧ (4096 : Int) < (a.size : Int) + (b.size : Int) + 1) := by omega
  clear h
  rcases hc with h1 | ⟨h1, h2⟩ | ⟨h1, h2, h3⟩
  all_goals
    go_enter Tryd.func8, Tryd.ntmps8
    go_wp2_with fail
    refine HA.out.mono ?_
    rintro e w1 ⟨rfl, hb1⟩
    go_wp2_with fail
    go_ret
    exact tells1 rfl hb1
set_option maxRecDepth 100000 in
set_option maxHeartbeats 6400000 in
theorem parts_in (a b : ByteArray) (w : World) (hE : ScanEnv w) (h : a.size + b.size + 1 ≤ 4096) : Calls Tryd.prog 8 #[.string a, .string b] w (Tells1 w true) := by
  have HA : Hid (Calls Tryd.prog 14 #[] w (Tells1 w true)) := Lib.hid (awake_any w hE)
  have HSR : Hid (∀ t l n c Y, After w Y → t.size ≤ 140737488355328 → scanR t.data.toList = (l, n, c) → Calls Tryd.prog 9 #[.string t] Y (ScanRow Y l (n : Nat) c)) := Lib.hid fun t l n c Y h ht hr => scan_row ht (hE.below h.below) hr
  have hsa := toList_eq a
  have hsb := toList_eq b
  have hp := scanR_parts (A := a.data.toList) (B := b.data.toList) (by rw [hsa, hsb]; exact h)
  rw [← part_list, hsa] at hp
  have hcs : (a ++ (⟨#[32]⟩ : ByteArray) ++ b).size ≤ 140737488355328 := by rw [cat_size, cat_size]; have : (⟨#[32]⟩ : ByteArray).size = 1 := rfl; omega
  have h1 : ¬ (4096 : Int) < (a.size : Int) := by omega
  have h2 : ¬ (4096 : Int) < (b.size : Int) := by omega
  have h3 : ¬ (4096 : Int) < (a.size : Int) + (b.size : Int) + 1 := by omega
  have hA4 : a.data.toList.length ≤ 4096 := by omega
  have hB4 : b.data.toList.length ≤ 4096 := by omega
  have hca := scanR_cases a.data.toList
  have hcb := scanR_cases b.data.toList
  clear hE
  obtain ⟨C, hC⟩ : ∃ C, a ++ (⟨#[32]⟩ : ByteArray) ++ b = C := ⟨_, rfl⟩
  rw [hC] at hp hcs
  obtain ⟨q1, q2, q3⟩ := hp
  rcases hca with ⟨h4, _⟩ | ⟨_, la, _, hra⟩ | ⟨_, na, _, hra⟩
  · omega
  · rcases hcb with ⟨h4, _⟩ | ⟨_, lb, _, hrb⟩ | ⟨_, nb, _, hrb⟩
    · omega
    · have hrc := q1 la hra lb hrb
      obtain ⟨N1, hN1⟩ : ∃ N, la.length = N := ⟨_, rfl⟩
      obtain ⟨N2, hN2⟩ : ∃ N, lb.length = N := ⟨_, rfl⟩
      have hpl : ∀ k ∈ lb, (0 : Int) ≤ k.place ∧ k.place ≤ 4096 := by
        rename_i hlb
        intro k hk
        have := scanT_place _ 0 _ _ (Nat.le_refl _) hlb k hk
        omega
      have HPL := Lib.hid hpl
      have HSA : Hid (∀ Y, After w Y → Calls Tryd.prog 9 #[.string a] Y (ScanRowN Y la N1)) := Lib.hid fun Y h => by rw [← hN1]; exact HSR.out a _ _ _ Y h (by omega) hra
      have HSB : Hid (∀ Y, After w Y → Calls Tryd.prog 9 #[.string b] Y (ScanRowN Y lb N2)) := Lib.hid fun Y h => by rw [← hN2]; exact HSR.out b _ _ _ Y h (by omega) hrb
      have HSC : Hid (∀ Y, After w Y → Calls Tryd.prog 9 #[.string C] Y (ScanRowN Y (la ++ lb.map (·.up (a.size + 1))) (N1 + N2))) := Lib.hid fun Y h => by
        have := HSR.out C _ _ _ Y h hcs hrc
        have e : N1 + N2 = (la ++ lb.map (·.up (a.size + 1))).length := by rw [List.length_append, List.length_map]; omega
        rw [e]; exact this
      have HN1 := Lib.hid hN1
      have HN2 := Lib.hid hN2
      clear hra hrb hrc q1 q2 q3 HSR hN1 hN2 hpl
      go_enter Tryd.func8, Tryd.ntmps8
      go_wp2_with fail
      refine HA.out.mono ?_
      rintro e w1 ⟨rfl, hb1⟩
      have A1 := (After.refl w).next hb1
      clear hb1
      go_wp2_with fail
      refine (HSA.out _ A1).mono ?_
      rintro e w2 ⟨Aa, ka, rfl, hAa, hta, hb2⟩
      have A2 := A1.next hb2
      clear hb2 hAa
      go_wp2_with fail
      refine (HSB.out _ A2).mono ?_
      rintro e w3 ⟨Ab, kb, rfl, hAb, htb, hb3⟩
      have A3 := A2.next hb3
      have hta3 := hta.after hb3
      clear hb3 hAb hta
      go_wp2_with fail
      refine (HSC.out _ A3).mono ?_
      rintro e w4 ⟨Ac, kc, rfl, hAc, htc, hb4⟩
      have A4 := A3.next hb4
      have HTA := Lib.hid (hta3.after hb4)
      have HTB := Lib.hid (htb.after hb4)
      have HTC := Lib.hid htc
      have hcap := htc.2.1
      have hcapm := htc.2.2.1
      unfold maxLen at hcapm
      have g1 : (N1 : Int) ≤ (N1 : Int) + (N2 : Int) := by omega
      have g2 : (N1 : Int) + (N2 : Int) ≤ (kc : Int) := by omega
      have g3 : (N1 : Int) ≤ (kc : Int) := by omega
      have g4 : (0 : Int) ≤ (N1 : Int) := by omega
      clear hb4 hta3 htb htc
      rcases hAc with ⟨rfl, rfl, hnil⟩ | ⟨g, rfl⟩
      · obtain ⟨rfl, hlb⟩ := List.append_eq_nil_iff.1 hnil
        have hlb0 : lb = [] := by simpa using hlb
        subst hlb0
        obtain rfl : N1 = 0 := by have := HN1.out; simpa using this.symm
        obtain rfl : N2 = 0 := by have := HN2.out; simpa using this.symm
        clear hnil hlb HN1 HN2 g1 g2 g3 g4
        go_wp2_with fail
        refine (same_true w4 _ _ none Aa 0 0 ka [] [] (Row.nil w4 0 0 4) HTA.out (Nat.zero_le _) (Nat.le_refl _) rfl).mono ?_
        rintro e w5 ⟨rfl, hb5⟩
        have A5 := A4.next hb5
        have HTB5 := Lib.hid (HTB.out.after hb5)
        clear hb5
        go_wp2_with fail
        refine (same_true w5 _ _ none Ab 0 0 kb [] [] (Row.nil w5 0 0 4) HTB5.out (Nat.zero_le _) (Nat.le_refl _) rfl).mono ?_
        rintro e w6 ⟨rfl, hb6⟩
        have A6 := A5.next hb6
        clear hb6
        go_wp2_with fail
        go_loopw [14] (fun i wr => i = .int .i64 0 ∧ After w wr) (fun i _ => 0)
        case atStart => exact ⟨rfl, A6⟩
        case round =>
          obtain ⟨rfl, A7⟩ := hrel
          go_wp2_with fail
          go_ret
          exact tells1 rfl A7.below
      · go_wp2_with fail
        refine (same_true w4 _ _ (some ⟨g, 0, none⟩) Aa N1 kc ka la la (HTC.out.first HN1.out kc (by omega) (by unfold maxLen; omega)) HTA.out (Nat.le_refl _) (Nat.le_refl _) (AlikeL.refl _)).mono ?_
        rintro e w5 ⟨rfl, hb5⟩
        have A5 := A4.next hb5
        have HTB5 := Lib.hid (HTB.out.after hb5)
        have HTC5 := Lib.hid (HTC.out.after hb5)
        clear hb5 HTC HTB HTA
        go_wp2_with fail
        · obtain rfl : N2 = 0 := by omega
          obtain rfl : lb = [] := List.length_eq_zero_iff.1 HN2.out
          have hrow : TokIn w5 0 (some ⟨g, 0, none⟩) 0 0 [] := ⟨by simp [toksCells], Nat.le_refl _, Nat.zero_le _, fun h => absurd h (by omega)⟩
          refine (same_true w5 _ _ _ Ab 0 0 kb [] [] hrow HTB5.out (Nat.zero_le _) (Nat.le_refl _) rfl).mono ?_
          rintro e w6 ⟨rfl, hb6⟩
          have A6 := A5.next hb6
          clear hb6 hrow
          go_wp2_with fail
          go_loopw [14] (fun i wr => i = .int .i64 0 ∧ After w wr) (fun i _ => 0)
          case atStart => exact ⟨rfl, A6⟩
          case round =>
            obtain ⟨rfl, A7⟩ := hrel
            go_wp2_with fail
            go_ret
            exact tells1 rfl A7.below
        · have hoth : TokIn w5 w5.heap.size (some ⟨g, N1 * 4, none⟩) N2 (kc - N1) (lb.map (·.up (a.size + 1))) := by
            have := HTC5.out.others HN1.out N2 (kc - N1) (by rw [List.length_map]; exact HN2.out) (by omega) (by unfold maxLen; omega)
            rwa [Nat.zero_add] at this
          refine (same_true w5 _ _ _ Ab N2 (kc - N1) kb (lb.map (·.up (a.size + 1))) lb hoth HTB5.out (Nat.le_refl _) (Nat.le_refl _) (alikeL_up _ _)).mono ?_
          rintro e w6 ⟨rfl, hb6⟩
          have A6 := A5.next hb6
          have HTB6 := Lib.hid (HTB5.out.after hb6)
          have HTC6 := Lib.hid (HTC5.out.after hb6)
          clear hb6 hoth HTB5 HTC5
          go_wp2_with fail
          go_loopw [14] (fun i wr => ∃ k : Nat, k ≤ N2 ∧ i = .int .i64 k ∧ After w wr ∧ Below w6.heap.size w6 wr) (fun i _ => N2 - (intOf i).toNat)
          case atStart => exact ⟨0, by omega, rfl, A6, Below.refl _ _⟩
          case round =>
            obtain ⟨k, hk, rfl, A7, hb7⟩ := hrel
            by_cases hlt : k < N2
            · obtain ⟨bc, oc, tc, hec, _, htkc, hcc⟩ := (HTC6.out.below hb7).at_ (i := N1 + k) (by omega)
              injection hec with hec
              injection hec with e1 e2
              subst e1 e2
              obtain ⟨bb, ob, tb, rfl, _, htkb, hcb⟩ := (HTB6.out.below hb7).at_ hlt
              have htc' : tc = tb.up (a.size + 1) := by
                rw [List.getElem?_append_right (by have := HN1.out; omega), show N1 + k - la.length = k by have := HN1.out; omega, List.getElem?_map, htkb] at htkc
                simpa using htkc.symm
              have hp := HPL.out tb (List.mem_of_getElem? htkb)
              obtain ⟨hp0, hp1⟩ := hp
              have x1 : wr.cell? ⟨g, (N1 + k) * 4 + 3, none⟩ = some (.int .i64 (tb.place + ((a.size + 1 : Nat) : Int))) := by
                have := hcc.c3
                rw [htc', Nat.zero_add] at this
                exact this
              have x2 : wr.cell? ⟨bb, ob + k * 4 + 3, none⟩ = some (.int .i64 tb.place) := hcb.c3
              clear hcc hcb htkc htkb htc'
              obtain ⟨P, hP⟩ : ∃ P, tb.place = P := ⟨_, rfl⟩
              rw [hP] at x1 x2 hp0 hp1
              have hw : wrap64 ((a.size : Int) + 1 + P) = (a.size : Int) + 1 + P := IntWalk.wrap64_in _ (by omega)
              have d1 : ((P + ((a.size + 1 : Nat) : Int)) != ((a.size : Int) + 1 + P)) = false := by rw [bne_eq_false_iff_eq]; omega
              have y1 : (N1 : Int) + (k : Int) < (N1 : Int) + (N2 : Int) := by omega
              have y2 : (0 : Int) ≤ (N1 : Int) + (k : Int) := by omega
              have y3 : (k : Int) < (N2 : Int) := by omega
              have y4 : (0 : Int) ≤ (k : Int) := by omega
              have HB7 := Lib.hid hb7
              clear hP hb7
              go_wp2_with fail
              go_quiet (fail)
              all_goals go_wp2_with fail
              exact ⟨⟨k + 1, by omega, by go_num, A7.next (below_drewN (Below.refl _ _) _), HB7.out.trans ((below_drewN (Below.refl _ _) _).mono HB7.out.size)⟩, by simp [intOf]; omega⟩
            · go_wp2_with fail
              go_ret
              exact tells1 rfl A7.below
    · have hrc := q2 la hra nb hrb
      have hnb := (scanR_stops hrb).2.1
      have HSA : Hid (∀ Y, After w Y → Calls Tryd.prog 9 #[.string a] Y (ScanRow Y la 0 0)) := Lib.hid fun Y h => HSR.out a _ _ _ Y h (by omega) hra
      have HSB : Hid (∀ Y, After w Y → Calls Tryd.prog 9 #[.string b] Y (ScanRow Y [] nb 70)) := Lib.hid fun Y h => HSR.out b _ _ _ Y h (by omega) hrb
      have HSC : Hid (∀ Y, After w Y → Calls Tryd.prog 9 #[.string C] Y (ScanRow Y [] ((a.size + 1 + nb : Nat) : Int) 70)) := Lib.hid fun Y h => HSR.out C _ _ _ Y h hcs hrc
      clear hra hrb hrc q1 q2 q3 HSR
      go_enter Tryd.func8, Tryd.ntmps8
      go_wp2_with fail
      refine HA.out.mono ?_
      rintro e w1 ⟨rfl, hb1⟩
      have A1 := (After.refl w).next hb1
      clear hb1
      go_wp2_with fail
      refine (HSA.out _ A1).mono ?_
      rintro e w2 ⟨Aa, ka, rfl, hAa, hta, hb2⟩
      have A2 := A1.next hb2
      clear hb2 hta hAa
      go_wp2_with fail
      refine (HSB.out _ A2).mono ?_
      rintro e w3 ⟨Ab, kb, rfl, hAb, htb, hb3⟩
      have A3 := A2.next hb3
      clear hb3 htb hAb
      go_wp2_with fail
      refine (HSC.out _ A3).mono ?_
      rintro e w4 ⟨Ac, kc, rfl, hAc, htc, hb4⟩
      have A4 := A3.next hb4
      clear hb4 htc hAc
      go_wp2_with fail
      go_ret
      exact tells1 (by first | (simp; done) | (simp; rw [IntWalk.wrap64_in _ (by omega)])) A4.below
  · have HSA : Hid (∀ Y, After w Y → Calls Tryd.prog 9 #[.string a] Y (ScanRow Y [] na 70)) := Lib.hid fun Y h => HSR.out a _ _ _ Y h (by omega) hra
    have HSB : Hid (∃ (l : List Tok) (n : Nat) (c : Int), ∀ Y, After w Y → Calls Tryd.prog 9 #[.string b] Y (ScanRow Y l n c)) := Lib.hid ⟨_, _, _, fun Y h => HSR.out b _ _ _ Y h (by omega) rfl⟩
    have hq := q3 na hra
    have HSC : Hid (∃ (l : List Tok) (n : Nat) (c : Int), (∀ Y, After w Y → Calls Tryd.prog 9 #[.string C] Y (ScanRow Y l n c)) ∧ (c = 0 ∨ (c = 70 ∧ na ≤ n))) := Lib.hid (by
      rcases hq with ⟨l, hl⟩ | ⟨k, hk, hl⟩
      · exact ⟨l, 0, 0, fun Y h => HSR.out C _ _ _ Y h hcs hl, .inl rfl⟩
      · exact ⟨[], k, 70, fun Y h => HSR.out C _ _ _ Y h hcs hl, .inr ⟨rfl, hk⟩⟩)
    clear hra hq q1 q2 q3 HSR
    go_enter Tryd.func8, Tryd.ntmps8
    go_wp2_with fail
    refine HA.out.mono ?_
    rintro e w1 ⟨rfl, hb1⟩
    have A1 := (After.refl w).next hb1
    clear hb1
    go_wp2_with fail
    refine (HSA.out _ A1).mono ?_
    rintro e w2 ⟨Aa, ka, rfl, hAa, hta, hb2⟩
    have A2 := A1.next hb2
    clear hb2 hta hAa
    go_wp2_with fail
    obtain ⟨l3, n3, c3, hs3⟩ := HSB.out
    refine (hs3 _ A2).mono ?_
    rintro e w3 ⟨Ab, kb, rfl, hAb, htb, hb3⟩
    have A3 := A2.next hb3
    clear hb3 htb hAb hs3 HSB
    go_wp2_with fail
    obtain ⟨l4, n4, c4, hs4, hc4⟩ := HSC.out
    refine (hs4 _ A3).mono ?_
    rintro e w4 ⟨Ac, kc, rfl, hAc, htc, hb4⟩
    have A4 := A3.next hb4
    clear hb4 htc hAc hs4 HSC
    rcases hc4 with rfl | ⟨rfl, hle⟩
    · go_wp2_with fail
      go_ret
      exact tells1 (by simp) A4.below
    · have hle' : (na : Int) ≤ (n4 : Int) := by omega
      go_wp2_with fail
      go_ret
      exact tells1 (by first | rfl | (simp; done) | (simp; omega)) A4.below
theorem parts_any (a b : ByteArray) (w : World) (ha : a.size ≤ 140737488355328) (hb : b.size ≤ 140737488355328) (hE : ScanEnv w) : Calls Tryd.prog 8 #[.string a, .string b] w (Tells1 w true) := by
  by_cases h : a.size + b.size + 1 ≤ 4096
  · exact parts_in a b w hE h
  · exact parts_long a b w ha hb hE h
end Go.Proofs.YtinhlemebnlijaaDoor

/-
  TREES TOLD BY NUMBERS: the program's way and the document's: plain mathematics. No program stands in it.
  WALKS: the document: trees.
  THE LIBRARY's ITERATOR OVER A SLICE OF NUMBERS FROM ITS END (slices.Backward), inside a fence: what comes, in its order.
  WALK inside a fence: the program's Tree.
  The program's Tree and the document's answer alike, as plain contracts.
  AN ELEMENT'S FIRST CELL STORED OVER in a row of the call's own: plain.
-/
import Derived.Test.YtbnjblejbnapgaaZ9
import Derived.RangeFuncNested
import Derived.RangeFuncBound
import Derived.RangeFuncCalls
import Derived.RangeFuncLeaves
import Derived.Shelf.Abstract
import Derived.Shelf.RegionOpen
import Derived.WalkKit
import Derived.OwnWalkIn
import Derived.TacticsInMore
import Derived.LoopNIn
import Derived.LoopIn
import Derived.Maps.AppendAt
namespace Go.Proofs.Ytbnjblejbnapgaa
open Go Go.RowKit
set_option linter.unusedVariables false
/-- the program's way: the elements one behind the other; what is to be met yet, the next one first -/
def treeP : List (List Int) → Nat → List Int → Bool
  | [], _, stk => stk.isEmpty
  | _ :: _, _, [] => false
  | a :: T, i, t :: stk => if t = (i : Int) then treeP T (i + 1) (a ++ stk) else false
/-- the document's way -/
def treeD (N : Nat) : List (List Int) → Nat → List Int → Bool
  | T, _, [] => T.isEmpty
  | [], _, _ :: _ => false
  | a :: T, i, t :: stk => if t = (i : Int) ∧ a.length ≤ N then treeD N T (i + 1) (a ++ stk) else false
theorem treeP_short : ∀ (T : List (List Int)) (i : Nat) (stk : List Int), treeP T i stk = true → stk.length ≤ T.length
  | [], _, stk, h => by
    unfold treeP at h
    rw [List.isEmpty_iff] at h
    simp [h]
  | a :: T, i, [], h => by simp
  | a :: T, i, t :: stk, h => by
    unfold treeP at h
    split at h
    · have := treeP_short T (i + 1) (a ++ stk) h
      rw [List.length_append] at this
      simp only [List.length_cons]
      omega
    · cases h
theorem tree_same (N : Nat) : ∀ (T : List (List Int)) (i : Nat) (stk : List Int), T.length ≤ N → treeP T i stk = treeD N T i stk
  | [], _, [], _ => rfl
  | [], _, _ :: _, _ => rfl
  | a :: T, i, [], _ => rfl
  | a :: T, i, t :: stk, h => by
    unfold treeP treeD
    have hT : T.length ≤ N := by simp at h; omega
    by_cases ht : t = (i : Int)
    · by_cases ha : a.length ≤ N
      · rw [if_pos ht, if_pos ⟨ht, ha⟩]
        exact tree_same N T (i + 1) (a ++ stk) hT
      · rw [if_pos ht, if_neg (fun h => ha h.2)]
        cases hp : treeP T (i + 1) (a ++ stk) with
        | false => rfl
        | true =>
          have := treeP_short T (i + 1) (a ++ stk) hp
          rw [List.length_append] at this
          simp at h
          omega
    · rw [if_neg ht, if_neg (fun h => ht h.1)]
/-- a step of either way, the rest told by where it begins -/
theorem drop_at {T : List (List Int)} {i : Nat} {a : List Int} (h : T[i]? = some a) : T.drop i = a :: T.drop (i + 1) := by
  have hk := (List.getElem?_eq_some_iff.1 h).1
  rw [List.drop_eq_getElem_cons hk, (List.getElem?_eq_some_iff.1 h).2]
theorem treeD_go {N : Nat} {T : List (List Int)} {i : Nat} {a stk : List Int} (h : T[i]? = some a) (ha : a.length ≤ N) : treeD N (T.drop i) i ((i : Int) :: stk) = treeD N (T.drop (i + 1)) (i + 1) (a ++ stk) := by
  rw [drop_at h]; exact if_pos ⟨rfl, ha⟩
theorem treeD_long {N : Nat} {T : List (List Int)} {i : Nat} {a stk : List Int} {t : Int} (h : T[i]? = some a) (ha : ¬ a.length ≤ N) : treeD N (T.drop i) i (t :: stk) = false := by
  rw [drop_at h]; exact if_neg (fun h => ha h.2)
theorem treeD_other {N : Nat} {T : List (List Int)} {i : Nat} {stk : List Int} {t : Int} (h : t ≠ (i : Int)) : treeD N (T.drop i) i (t :: stk) = false := by
  cases T.drop i with
  | nil => rfl
  | cons a T => exact if_neg (fun h' => h h'.1)
theorem treeD_past {N : Nat} {T : List (List Int)} {i : Nat} {stk : List Int} {t : Int} (h : T.length ≤ i) : treeD N (T.drop i) i (t :: stk) = false := by
  rw [List.drop_eq_nil_of_le h]; rfl
theorem treeD_nil {N : Nat} {T : List (List Int)} {i : Nat} : treeD N T i [] = T.isEmpty := by cases T <;> rfl
theorem treeD_end {N : Nat} {T : List (List Int)} {i : Nat} (hi : i ≤ T.length) : treeD N (T.drop i) i [] = ((i : Int) == (T.length : Int)) := by
  rw [treeD_nil]
  rcases Nat.lt_or_ge i T.length with h | h
  · have h1 : ((i : Int) == (T.length : Int)) = false := by rw [beq_eq_false_iff_ne]; omega
    rw [h1]
    cases hd : T.drop i with
    | nil => have := congrArg List.length hd; rw [List.length_drop] at this; simp at this; omega
    | cons a l => rfl
  · have h1 : ((i : Int) == (T.length : Int)) = true := by rw [beq_iff_eq]; omega
    rw [h1, List.drop_eq_nil_of_le h]; rfl
theorem treeP_go {T : List (List Int)} {i : Nat} {a stk : List Int} (h : T[i]? = some a) : treeP (T.drop i) i ((i : Int) :: stk) = treeP (T.drop (i + 1)) (i + 1) (a ++ stk) := by
  rw [drop_at h]; exact if_pos rfl
theorem treeP_other {T : List (List Int)} {i : Nat} {a stk : List Int} {t : Int} (h : T[i]? = some a) (ht : t ≠ (i : Int)) : treeP (T.drop i) i (t :: stk) = false := by
  rw [drop_at h]; exact if_neg ht
theorem treeP_none {T : List (List Int)} {i : Nat} {a : List Int} (h : T[i]? = some a) : treeP (T.drop i) i [] = false := by
  rw [drop_at h]; rfl
theorem treeP_end {T : List (List Int)} {stk : List Int} : treeP (T.drop T.length) T.length stk = stk.isEmpty := by
  rw [List.drop_length]; rfl
end Go.Proofs.Ytbnjblejbnapgaa
namespace Go.Proofs.Ytbnjblejbnapgaa
open Go Go.RowKit Go.Sort
set_option linter.unusedVariables false
/-- numbers in own memory -/
def OwnI (w : World) (B : Nat) (v : Value) (l : List Int) : Prop := w.ownsRow B 3 1 v l.length (intCells l)
theorem OwnI.after {w w' : World} {B : Nat} {v : Value} {l : List Int} (h : OwnI w B v l) (hb : Below w.heap.size w w') : OwnI w' B v l := own_after h hb
theorem OwnI.alloc {w : World} {B : Nat} {v : Value} {l : List Int} (h : OwnI w B v l) (o : Obj) : OwnI (w.alloc o) B v l := World.ownsRow.alloc h o
theorem own_someI {w : World} {B n c : Nat} {A : Option Addr} {l : List Int} (h : OwnI w B (.slice A n c) l) (hl : l.length = n) (hn : 0 < n) : ∃ g, A = some ⟨g, 0, none⟩ ∧ n ≤ c ∧ c ≤ maxLen := by
  subst hl
  have hr := own_row h
  rcases h.2 with ⟨hv, h0⟩ | ⟨g, cap, cur, hv, _⟩
  · omega
  · injection hv with h1; exact ⟨g, h1, hr.2.1, hr.2.2.1⟩
theorem own_atI {w : World} {B n c g a : Nat} {l : List Int} {y : Int} (h : OwnI w B (.slice (some ⟨g, 0, none⟩) n c) l) (hl : l.length = n) (hy : l[a]? = some y) : w.cell? ⟨g, a, none⟩ = some (.int .i64 y) := by
  subst hl
  have hk := (List.getElem?_eq_some_iff.1 hy).1
  have := World.ownsRow.cellAt h (a * 1) (by omega)
  rw [Nat.mul_one] at this
  rw [this]
  exact intCells_get hy
theorem own_takeI {w : World} {B n c g a : Nat} {l m : List Int} (h : OwnI w B (.slice (some ⟨g, 0, none⟩) n c) l) (hl : l.length = n) (ha : a ≤ n) (hm : l.take a = m) (hma : m.length = a) : OwnI w B (.slice (some ⟨g, 0, none⟩) a c) m := by
  subst hl
  subst hm
  unfold OwnI
  rw [hma]
  rcases h.2 with ⟨hv, _⟩ | ⟨g', cap, cur, hv, hb, hg, h1, h2, h3, h4⟩
  · simp at hv
  · injection hv with e1 e2 e3
    subst e3
    injection e1 with e1; injection e1 with e1; subst e1
    refine ⟨by rw [intCells_length]; omega, .inr ⟨g, c, cur, rfl, hb, hg, by omega, h2, h3, ?_⟩⟩
    rw [Nat.mul_one] at h4 ⊢
    have : cur.toList.take a = (cur.toList.take l.length).take a := by rw [List.take_take]; congr 1; omega
    rw [this, h4]
    simp [intCells, List.map_take]
theorem app_int1 {X : World} {ops : Array Oper} {rest : List Oper} {o : Oper} {a : Act} {Q : Exit → Act → World → Prop} (hgd : o.guard = none) (s x : Operand)
    (ho : o.op = .call { callee := .builtin .append, args := #[s, x], argTypes := #[80, 80] })
    (B : Nat) (v : Value) (n : Nat) (l : List Int) (hs : a.eval s = v) (hown : OwnI X B v l) (hl : l.length = n) (g : Nat) (y : Int) (hx : a.eval x = .slice (some ⟨g, 0, none⟩) 1 1) (hg : Blk X g 3 #[.int .i64 y])
    (hroom : n ≤ 100000000) (hB : B ≤ X.heap.size)
    (h : ∀ A' c' w', OwnI w' B (.slice A' (n + 1) c') (l ++ [y]) → Below B X w' → wpList Try.prog ops Q rest (a.put o.dst (.slice A' (n + 1) c')) w') : wpList Try.prog ops Q (o :: rest) a X := by
  subst hl
  obtain ⟨i0, hi0, hz0, hz1, hz2⟩ := info_parts info_int
  refine wpList_app X hgd s x _ ho B 3 i0 (.int .i64 0) 1 8 Try.underlying80 hi0 hz0 hz1 hz2 rfl (by decide) v l.length (intCells l) hs hown g (g + 1) (some ⟨g, 0, none⟩) 1 1 (intCells [y]) hx (row_blk hg rfl (Nat.le_refl _) (by unfold maxLen; omega)) (fun u hu => by simp [intCells] at hu; subst hu; rfl) (by unfold maxLen; omega) (by omega) hB ?_
  intro v' w' hown' hg' _
  obtain ⟨A', c', rfl⟩ := own_form hown'
  refine h A' c' w' ?_ ((Below.refl _ _).grown hg' hB (fun k hk => (World.ownsRow.lt hown k hk).1))
  unfold OwnI
  rw [List.length_append, List.length_singleton]
  simpa [intCells] using hown'
set_option maxRecDepth 100000 in
set_option maxHeartbeats 6400000 in
theorem refTree_any (w : World) (hi : Nat) (A : Option Addr) (n c : Nat) (l : List (SideD × Sl)) (h : GRow sideC SideIn 4 w 0 hi ⟨A, n, c⟩ l) (hh : hi ≤ w.heap.size) (hn : n ≤ 2000) : Calls Try.prog 16 #[.slice A n c] w (Ret w (.bool (treeD n (l.map (·.1.args)) 0 [0]))) := by
  have HI := Lib.hid h
  have HN : Hid (n = l.length) := Lib.hid h.n
  have z1 : n ≤ c := h.row.2.1
  have y1 : c ≤ maxLen := h.row.2.2.1
  unfold maxLen at y1
  clear h
  obtain ⟨T, hT⟩ : ∃ T, l.map (·.1.args) = T := ⟨_, rfl⟩
  rw [hT]
  have HT := Lib.hid hT
  obtain ⟨V, hV⟩ : ∃ V, treeD n T 0 [0] = V := ⟨_, rfl⟩
  have HTn : Hid (T.length = n) := Lib.hid (by rw [← hT, List.length_map, HN.out])
  have HV0 : Hid (treeD n (T.drop 0) 0 ([0] : List Int).reverse = V) := Lib.hid (by rw [← hV]; rfl)
  rw [hV]
  clear hT hV
  have HO0 : Hid (OwnI (w.alloc (.cells #[.int .i64 0] 3)) w.heap.size (.slice (some ⟨w.heap.size, 0, none⟩) 1 1) [0]) := Lib.hid ⟨rfl, .inr ⟨w.heap.size, 1, #[.int .i64 0], rfl, Nat.le_refl _, Blk.new _ _ _, Nat.le_refl _, by unfold maxLen; omega, rfl, rfl⟩⟩
  have HB0 : Hid (Below w.heap.size w (w.alloc (.cells #[.int .i64 0] 3))) := Lib.hid (below_more (Below.refl _ _) _)
  go_enter Try.func16, Try.ntmps16
  go_wp2_with fail
  go_loopw [3, 4] (fun v i wr => ∃ (k m : Nat) (R : List Int) (A : Option Addr) (c : Nat), v = .slice A m c ∧ i = .int .i64 k ∧ k ≤ n ∧ m ≤ 1 + k * 2000 ∧ Hid (R.length = m) ∧ Hid (treeD n (T.drop k) k R.reverse = V) ∧ Hid (OwnI wr w.heap.size (.slice A m c) R) ∧ Hid (Below w.heap.size w wr)) (fun _ i _ => n - (intOf i).toNat)
  case atStart => exact ⟨0, 1, [0], _, 1, rfl, rfl, Nat.zero_le _, by omega, Lib.hid rfl, HV0, HO0, HB0⟩
  case round =>
    obtain ⟨k, m, R, A1, c1, rfl, rfl, hk, hm, HL, HV, HO, HB⟩ := hrel
    obtain ⟨wo, hwo⟩ : ∃ wo : World, wo = wr := ⟨_, rfl⟩
    rw [← hwo] at HO HB ⊢
    clear hwo
    have hsz := HB.out.size
    by_cases hm0 : 0 < m
    · obtain ⟨m0, rfl⟩ : ∃ m0, m = m0 + 1 := ⟨m - 1, by omega⟩
      obtain ⟨R0, t, hR⟩ : ∃ R0 t, R = R0 ++ [t] := by
        rcases List.eq_nil_or_concat R with e | ⟨R0, t, e⟩
        · have := HL.out; rw [e] at this; simp at this
        · exact ⟨R0, t, by simpa using e⟩
      have hR0 : R0.length = m0 := by have := HL.out; rw [hR] at this; simpa using this
      obtain ⟨g, rfl, hc1, hc2⟩ := own_someI HO.out HL.out (by omega)
      unfold maxLen at hc2
      have ct : wo.cell? ⟨g, m0, none⟩ = some (.int .i64 t) := own_atI HO.out HL.out (by rw [hR, List.getElem?_append_right (by omega), hR0]; simp)
      have HO2 : Hid (OwnI wo w.heap.size (.slice (some ⟨g, 0, none⟩) m0 c1) R0) := Lib.hid (own_takeI HO.out HL.out (by omega) (by rw [hR, List.take_append_of_le_length (by omega), List.take_of_length_le (by omega)]) hR0)
      have HV2 : Hid (treeD n (T.drop k) k (t :: R0.reverse) = V) := Lib.hid (by rw [← HV.out, hR, List.reverse_append]; rfl)
      have HR0 := Lib.hid hR0
      clear hR hR0 HV HL HO hm0
      by_cases htk : t = (k : Int)
      · subst htk
        by_cases hkn : k < n
        · obtain ⟨b, o, hA, _, hb, VV⟩ := HI.out.at_ (fun _ => rfl) (show 0 < n by omega)
          simp only at hA
          subst hA
          obtain ⟨x, hx⟩ : ∃ x, l[k]? = some x := ⟨l[k]'(by have := HN.out; omega), List.getElem?_eq_getElem _⟩
          obtain ⟨hlf, hat⟩ := VV k x hx
          obtain ⟨⟨x1, x2, x3, xa⟩, ⟨Aa, na, ca⟩⟩ := x
          have q3 : wo.cell? ⟨b, o + k * 4 + 3, none⟩ = some (.slice Aa na ca) := (HB.out.cell (p := ⟨_, _, none⟩) (show b < w.heap.size by omega)).trans (hat 3 _ (by omega) rfl)
          have HTk : Hid (T[k]? = some xa) := Lib.hid (by rw [← HT.out, List.getElem?_map, hx]; rfl)
          have HNa : Hid (na = xa.length) := Lib.hid hlf.an
          have za : na ≤ ca := hlf.a.2.1
          have ya : ca ≤ maxLen := hlf.a.2.2.1
          unfold maxLen at ya
          have HRa : Hid (Row w 0 hi 1 Aa na ca (intCells xa)) := Lib.hid hlf.a
          clear hlf hat VV hx
          by_cases hna : na ≤ n
          · have HV3 : Hid (treeD n (T.drop (k + 1)) (k + 1) (xa ++ R0.reverse) = V) := Lib.hid (by rw [← HV2.out, treeD_go HTk.out (by have := HNa.out; omega)])
            clear HV2
            have hna2 : ¬ ((n : Int) < (na : Int)) := by omega
            go_wp2_with fail
            go_loopw [3, 6] (fun v i wr => ∃ (j m2 : Nat) (R2 : List Int) (A2 : Option Addr) (c2 : Nat), v = .slice A2 m2 c2 ∧ i = .int .i64 ((j : Int) - 1) ∧ j ≤ na ∧ Hid (m2 = m0 + (na - j)) ∧ Hid (R2.length = m2) ∧ Hid (R2 = R0 ++ (xa.drop j).reverse) ∧ Hid (OwnI wr w.heap.size (.slice A2 m2 c2) R2) ∧ Hid (Below w.heap.size w wr)) (fun _ i _ => (intOf i + 1).toNat)
            case atStart => exact ⟨na, m0, R0, _, c1, rfl, by go_num, Nat.le_refl _, Lib.hid (by omega), HR0, Lib.hid (by rw [List.drop_eq_nil_of_le (by have := HNa.out; omega)]; simp), HO2, HB⟩
            case round =>
              obtain ⟨j, m2, R2, A2, c2, rfl, rfl, hj, hm2, HL2, HR2, HO3, HBv⟩ := hrel
              rcases Nat.eq_zero_or_pos j with hj0 | hj0
              · subst hj0
                have HV4 : Hid (treeD n (T.drop (k + 1)) (k + 1) R2.reverse = V) := Lib.hid (by rw [← HV3.out, HR2.out, List.drop_zero, List.reverse_append, List.reverse_reverse])
                go_wp2_with fail
                have hm3 := hm2.out
                exact ⟨⟨k + 1, m2, R2, A2, c2, rfl, by go_num, by omega, by omega, HL2, HV4, HO3, HBv⟩, by simp [intOf]; omega⟩
              · obtain ⟨j1, rfl⟩ : ∃ j1, j = j1 + 1 := ⟨j - 1, by omega⟩
                obtain ⟨ba, oa, hAa, _, hba, hca⟩ := HRa.out.2.2.2 (by omega)
                subst hAa
                obtain ⟨y, hy⟩ : ∃ y, xa[j1]? = some y := ⟨xa[j1]'(by have := HNa.out; omega), List.getElem?_eq_getElem _⟩
                have cy : wr.cell? ⟨ba, oa + j1, none⟩ = some (.int .i64 y) := (HBv.out.cell (p := ⟨_, _, none⟩) (show ba < w.heap.size by omega)).trans (hca j1 _ (intCells_get hy))
                have q3v : wr.cell? ⟨b, o + k * 4 + 3, none⟩ = some (.slice (some ⟨ba, oa, none⟩) na ca) := (HBv.out.cell (p := ⟨_, _, none⟩) (show b < w.heap.size by omega)).trans ((HB.out.cell (p := ⟨_, _, none⟩) (show b < w.heap.size by omega)).symm.trans q3)
                have HR3 : Hid (R2 ++ [y] = R0 ++ (xa.drop j1).reverse) := Lib.hid (by
                  have hk1 := (List.getElem?_eq_some_iff.1 hy).1
                  rw [HR2.out, List.drop_eq_getElem_cons hk1, (List.getElem?_eq_some_iff.1 hy).2, List.reverse_cons, List.append_assoc])
                have HL3 : Hid ((R2 ++ [y]).length = m2 + 1) := Lib.hid (by rw [List.length_append, HL2.out]; rfl)
                have hszv := HBv.out.size
                clear hca hy
                go_wp2_with (at_builtin; with_reducible show wpList _ _ _ (⟨some 65, _, _, _, _, _⟩ :: _) _ _; go_must (refine app_int1 (o := ⟨some 65, _, _, _, _, _⟩) rfl (.tmp 55) (.tmp 64) rfl w.heap.size (.slice A2 m2 c2) m2 R2 (by go_simp) (OwnI.alloc HO3.out _) HL2.out wr.heap.size y (by go_simp) (Blk.new _ _ _) (by have := hm2.out; omega) (by simp; omega) ?_; intro A4 c4 w4 hown4 hb4; have HO4 := Lib.hid hown4; have HB4 := Lib.hid ((HBv.out.alloc HBv.out.size _).trans hb4); clear hown4 hb4))
                go_roundw
                case rel => exact ⟨j1, m2 + 1, R2 ++ [y], A4, c4, rfl, by go_num, by omega, Lib.hid (by have := hm2.out; omega), HL3, HR3, HO4, HB4⟩
                case measure => simp [intOf] <;> omega
          · have HF : Hid (V = false) := Lib.hid (by rw [← HV2.out, treeD_long HTk.out (by have := HNa.out; omega)])
            have hna2 : ((n : Int) < (na : Int)) := by omega
            go_wp2_with fail
            go_ret
            exact ⟨by rw [HF.out]; rfl, HB.out⟩
        · have HF : Hid (V = false) := Lib.hid (by rw [← HV2.out, treeD_past (by have := HTn.out; omega)])
          have hkn2 : ((n : Int) ≤ (k : Int)) := by omega
          go_wp2_with fail
          go_ret
          exact ⟨by rw [HF.out]; rfl, HB.out⟩
      · have HF : Hid (V = false) := Lib.hid (by rw [← HV2.out, treeD_other htk])
        have hne : (t != (k : Int)) = true := by rw [bne_iff_ne]; exact htk
        go_wp2_with fail
        go_ret
        exact ⟨by rw [HF.out]; rfl, HB.out⟩
    · have HF : Hid (V = ((k : Int) == (n : Int))) := Lib.hid (by
        have h1 : R = [] := List.length_eq_zero_iff.1 (by have := HL.out; omega)
        have h2 := HTn.out
        rw [← HV.out, h1, List.reverse_nil, treeD_end (by omega), h2])
      go_wp2_with fail
      go_ret
      exact ⟨by rw [HF.out]; rfl, HB.out⟩
end Go.Proofs.Ytbnjblejbnapgaa
namespace Go.Proofs.Ytbnjblejbnapgaa
open Go Go.Proofs Go.RowKit Go.Shelf
attribute [local go_sem] Oper.semAt_some
set_option linter.unusedVariables false
/-- what a round of the loop's body must keep: all below n₀, and the box in which the slice lies (the closure reads it in every round) -/
def KpB (n₀ Bs : Nat) (W W' : World) : Prop := Below n₀ W W' ∧ ∀ v, W.cell? ⟨Bs, 0, none⟩ = some v → W'.cell? ⟨Bs, 0, none⟩ = some v
theorem KpB.refl (n₀ Bs : Nat) (W : World) : KpB n₀ Bs W W := ⟨Below.refl _ _, fun _ h => h⟩
theorem KpB.trans {n₀ Bs : Nat} {A B C : World} (h : KpB n₀ Bs A B) (h' : KpB n₀ Bs B C) : KpB n₀ Bs A C := ⟨h.1.trans h'.1, fun v hv => h'.2 v (h.2 v hv)⟩
theorem kpB_b {n₀ Bs : Nat} {w : World} (hn : n₀ ≤ w.heap.size) (W : World) (l : Nat) (o o' : Obj) (hl : w.heap.size ≤ l) (ho : W.heap[l]? = some o) (hc : o.isCells = false) (hw : o.isWalk = false) : KpB n₀ Bs W (W.putObj l o') :=
  ⟨belowK_b hn W l o o' hl ho hc hw, fun v hv => cell_kept hv (grownBy_putObj' W l o') (fun r e => by cases e; exact ⟨o, ho, hc⟩)⟩
/-- what has come when so many rounds are over -/
def comes {α : Type} (f : Nat → α) (k : Nat) : List α := (List.range k).map f
theorem comes_succ {α : Type} (f : Nat → α) (k : Nat) : comes f (k + 1) = comes f k ++ [f k] := by simp [comes, List.range_succ]
theorem comes_length {α : Type} (f : Nat → α) (k : Nat) : (comes f k).length = k := by simp [comes]
/-- the j-th from the end, with its number -/
def fromEnd (zs : List Int) (len : Nat) (j : Nat) : Nat × Int := (len - j - 1, zs[len - j - 1]?.getD 0)
set_option maxRecDepth 100000 in
set_option maxHeartbeats 2000000 in
theorem back1_in (F : Fence) (n : Nat) (h8 : F.fn 48) (hro : F.round = none) (hn : 1 ≤ n) (l Bs n₀ b off len cap : Nat) (zs : List Int) (hreach : len * 8 ≤ 140737488355328) (hb : b < n₀) (J Jx : List (Nat × Int) → World → Prop)
    (hY : ∀ pre x W, J pre W → pre.length < len → YieldAt F (n - 1) Try.prog l #[.int .i64 (x.1 : Int), .int .i64 x.2] W fun e W' =>
      (e = .returned (.bool true) ∧ J (pre ++ [x]) W' ∧ KpB n₀ Bs W W') ∨ (e = .returned (.bool false) ∧ Jx (pre ++ [x]) W'))
    (W : World) (hBs : W.cell? ⟨Bs, 0, none⟩ = some (.slice (some ⟨b, off, none⟩) len cap)) (hc : ∀ j, j < len → W.cell? ⟨b, off + j, none⟩ = some (.int .i64 (zs[j]?.getD 0))) (h0 : J [] W) :
    CallsIn F n Try.prog 48 #[.func (.yield l) #[] #[], .pointer (some ⟨Bs, 0, none⟩)] W fun e W' => (∃ v, e = .returned v) ∧
      ((∃ ys, ys = comes (fromEnd zs len) len ∧ J ys W') ∨ (∃ pre, (∃ k, k ≤ len ∧ pre = comes (fromEnd zs len) k) ∧ Jx pre W')) := by
  refine callsIn_of_wp Try.func48 rfl h8 ?_ hro
  simp only [Try.ntmps48, List.size_toArray, List.length_cons, List.length_nil, Nat.reduceAdd, Nat.reduceSub, Array.replicate_succ, Array.replicate_zero, List.push_toArray, List.append_toArray, List.nil_append, List.cons_append]
  gi_wp2
  gi_loopw [3] (fun i wr => ∃ k : Nat, k ≤ len ∧ i = .int .i64 ((len : Int) - (k : Int) - 1) ∧ J (comes (fromEnd zs len) k) wr ∧ KpB n₀ Bs W wr)
    (fun i _ => (intOf i + 1).toNat)
  case atStart => exact ⟨0, Nat.zero_le _, by simp, h0, KpB.refl _ _ _⟩
  case round =>
    obtain ⟨k, hk, rfl, hJs, hnx⟩ := hrel
    have hbs : wr.cell? ⟨Bs, 0, none⟩ = some (.slice (some ⟨b, off, none⟩) len cap) := hnx.2 _ hBs
    by_cases hlt : k < len
    · obtain ⟨m, hm⟩ : ∃ m : Nat, m = len - k - 1 := ⟨_, rfl⟩
      have hmi : (len : Int) - (k : Int) - 1 = (m : Int) := by omega
      have hml : m < len := by omega
      rw [hmi]
      have hcx : wr.cell? ⟨b, off + m, none⟩ = some (.int .i64 (zs[m]?.getD 0)) := (hnx.1.cell (p := ⟨b, off + m, none⟩) hb).trans (hc m hml)
      obtain ⟨fn, tmps, assign, body, hy, hR⟩ := hY _ (m, zs[m]?.getD 0) wr hJs (by rw [comes_length]; exact hlt)
      dsimp only at hy
      have hfk : fromEnd zs len k = (m, zs[m]?.getD 0) := by unfold fromEnd; rw [← hm]
      rw [← hfk, ← comes_succ] at hR
      have HM := Lib.hid hm
      clear hmi hm
      gi_wp2
      refine hR.mono ?_
      rintro e W3 (⟨rfl, hJ3, hk3⟩ | ⟨rfl, hJx3⟩)
      · gi_wp2
        go_roundw
        case rel => exact ⟨k + 1, by omega, by have := HM.out; congr 1; omega, hJ3, hnx.trans hk3⟩
        case measure => have := HM.out; simp [intOf] <;> omega
      · gi_wp2
        refine bodyPost_ret (results_none rfl _ _ _) rfl ?_
        exact ⟨⟨_, rfl⟩, .inr ⟨_, ⟨k + 1, by omega, rfl⟩, hJx3⟩⟩
    · obtain rfl : k = len := by omega
      gi_wp2
      go_end0
      exact ⟨⟨_, rfl⟩, .inl ⟨_, rfl, hJs⟩⟩
set_option maxRecDepth 100000 in
set_option maxHeartbeats 1000000 in
theorem back1_nil_in (F : Fence) (n : Nat) (h8 : F.fn 48) (hro : F.round = none) (l Bs : Nat) (J : List (Nat × Int) → World → Prop) (W : World) (a : Option Addr) (cap : Nat) (hBs : W.cell? ⟨Bs, 0, none⟩ = some (.slice a 0 cap)) (h0 : J [] W) :
    CallsIn F n Try.prog 48 #[.func (.yield l) #[] #[], .pointer (some ⟨Bs, 0, none⟩)] W fun e W' => (∃ v, e = .returned v) ∧ J [] W' := by
  refine callsIn_of_wp Try.func48 rfl h8 ?_ hro
  simp only [Try.ntmps48, List.size_toArray, List.length_cons, List.length_nil, Nat.reduceAdd, Nat.reduceSub, Array.replicate_succ, Array.replicate_zero, List.push_toArray, List.append_toArray, List.nil_append, List.cons_append]
  gi_wp2
  gi_loopw [3] (fun i wr => i = .int .i64 (-1) ∧ J [] wr) (fun _ _ => 0)
  case atStart => exact ⟨rfl, h0⟩
  case round =>
    obtain ⟨rfl, hJs⟩ := hrel
    gi_wp2
    go_end0
    exact ⟨⟨_, rfl⟩, hJs⟩
/-- the maker: a box for the slice, and the closure over it -/
theorem back_in (F : Fence) (n : Nat) (h6 : F.fn 37) (hro : F.round = none) (a : Option Addr) (len cap : Nat) (w : World) :
    CallsIn F n Try.prog 37 #[.slice a len cap] w fun e w' => e = .returned (.func (.func 48) #[] #[.pointer (some ⟨w.heap.size, 0, none⟩)]) ∧ w' = w.alloc (.cells #[.slice a len cap] 80) := by
  refine callsIn_of_wp Try.func37 rfl h6 ?_ hro
  simp only [Try.ntmps37, List.size_toArray, List.length_cons, List.length_nil, Nat.reduceAdd, Nat.reduceSub, Array.replicate_succ, Array.replicate_zero, List.push_toArray, List.append_toArray, List.nil_append, List.cons_append]
  gi_wp2
  go_ret
  exact ⟨rfl, rfl⟩
/-- the slice's numbers in memory below n₀, or none -/
def IntsAt (n₀ : Nat) (W : World) (sv : Value) (zs : List Int) : Prop :=
  (∃ a cap, sv = .slice a 0 cap ∧ zs = []) ∨ ∃ b off cap, sv = .slice (some ⟨b, off, none⟩) zs.length cap ∧ b < n₀ ∧ ∀ j, j < zs.length → W.cell? ⟨b, off + j, none⟩ = some (.int .i64 (zs[j]?.getD 0))
theorem IntsAt.below {n₀ : Nat} {A B : World} {sv : Value} {zs : List Int} (h : IntsAt n₀ A sv zs) (hb : Below n₀ A B) : IntsAt n₀ B sv zs := by
  rcases h with h | ⟨b, off, cap, h1, h2, h3⟩
  · exact .inl h
  · exact .inr ⟨b, off, cap, h1, h2, fun j hj => (hb.cell (p := ⟨b, off + j, none⟩) h2).trans (h3 j hj)⟩
theorem back_stops (F : Fence) (n : Nat) (h8 : F.fn 48) (hro : F.round = none) (hn : 1 ≤ n) (Bs n₀ : Nat) (sv : Value) (zs : List Int) (hreach : zs.length * 8 ≤ 140737488355328) (w : World) (hBs : Bs < w.heap.size) (hn₀ : n₀ ≤ w.heap.size)
    (hc : w.cell? ⟨Bs, 0, none⟩ = some sv) (hI : IntsAt n₀ w sv zs) :
    SeqStopsK F n Try.prog 48 #[.pointer (some ⟨Bs, 0, none⟩)] (fun x : Nat × Int => #[Value.int .i64 (x.1 : Int), Value.int .i64 x.2]) (KpB n₀ Bs) (fun ys => ys = comes (fromEnd zs zs.length) zs.length)
      (fun pre => ∃ k, k ≤ zs.length ∧ pre = comes (fromEnd zs zs.length) k) zs.length w := fun l J Jx W hW _ _ hY h0 => by
  have hc' := (hW.cell (p := ⟨Bs, 0, none⟩) hBs).trans hc
  rcases hI.below (hW.mono hn₀) with ⟨a, cap, rfl, rfl⟩ | ⟨b, off, cap, rfl, hb, hcs⟩
  · refine (back1_nil_in F n h8 hro l Bs J W a cap hc' h0).mono ?_
    rintro e W' ⟨hv, hJ⟩
    exact ⟨hv, .inl ⟨[], rfl, hJ⟩⟩
  · exact back1_in F n h8 hro hn l Bs n₀ b off zs.length cap zs hreach hb J Jx hY W hc' hcs h0
end Go.Proofs.Ytbnjblejbnapgaa
namespace Go.Proofs.Ytbnjblejbnapgaa
open Go Go.Proofs Go.RowKit Go.Shelf
attribute [local go_sem] Oper.semAt_some
set_option linter.unusedVariables false
/-- the marks that the loops over iterators leave behind -/
def marks (Ds : List Nat) : List Deferred := Ds.map fun D => { target := .collected D, args := #[] }
theorem leave_marks {F : Fence} {n : Nat} {P : Program} {fn : Func} {tmps : Array Value} {R : Ending → World → Prop} (Pz : World → Prop) (hz : ∀ W, Pz W → LeavesIn F n P fn tmps R [] .returning W) :
    ∀ (Ds : List Nat) (W : World), Ds.Nodup → (∀ D ∈ Ds, W.heap[D]? = some (.deferred (some []))) → (∀ W, ∀ D ∈ Ds, W.heap[D]? = some (.deferred (some [])) → Pz W → Pz (W.putObj D (.deferred none))) → Pz W → LeavesInM F n P fn tmps R (marks Ds) .returning W
  | [], W, _, _, _, h => hz W h
  | D :: Ds, W, hn, hd, hp, h => by
    obtain ⟨h1, h2⟩ := List.nodup_cons.1 hn
    have hD := hd D List.mem_cons_self
    refine ⟨by simp, .inl ⟨D, _, rfl, run_takeDeferred hD, ?_⟩⟩
    refine leave_marks Pz hz Ds _ h2 (fun D' hD' => ?_) (fun W D' hD' => hp W D' (List.mem_cons_of_mem _ hD')) (hp W D List.mem_cons_self hD h)
    have hne : D' ≠ D := fun e => h1 (e ▸ hD')
    have h3 := hd D' (List.mem_cons_of_mem _ hD')
    exact ((grownBy_putObj' W D (.deferred none)).block D' (Array.getElem?_eq_some_iff.1 h3).1 (fun e => hne (Option.some.inj e))).trans h3
theorem comes_back (zs : List Int) : (comes (fromEnd zs zs.length) zs.length).map (·.2) = zs.reverse := by
  apply List.ext_getElem
  · simp [comes]
  · intro i h1 h2
    have hi : i < zs.length := by simpa [comes] using h1
    simp [comes, fromEnd, List.getElem_reverse, Nat.sub_right_comm, show zs.length - 1 - i < zs.length by omega]
    rw [List.getElem?_eq_getElem (by omega)]; rfl
theorem intsAt_of {w W : World} {hi na ca : Nat} {Aa : Option Addr} {xa : List Int} (h : Row w 0 hi 1 Aa na ca (intCells xa)) (hn : na = xa.length) (hh : hi ≤ w.heap.size) (hb : Below w.heap.size w W) : IntsAt w.heap.size W (.slice Aa na ca) xa := by
  rcases Nat.eq_zero_or_pos na with h0 | h0
  · subst h0
    exact .inl ⟨Aa, ca, rfl, List.length_eq_zero_iff.1 hn.symm⟩
  · obtain ⟨b, o, hA, _, hb2, hc⟩ := h.2.2.2 h0
    subst hn
    refine .inr ⟨b, o, ca, by rw [hA], by omega, fun j hj => ?_⟩
    refine (hb.cell (p := ⟨b, o + j, none⟩) (show b < w.heap.size by omega)).trans (hc j _ ?_)
    rw [List.getElem?_eq_getElem hj]
    exact intCells_get (List.getElem?_eq_getElem hj)
/-- the open list while a side's numbers come -/
def TI (w : World) (R0 : List Int) (Ds : List Nat) (Bs : Nat) (sv : Value) (pre : List (Nat × Int)) (W : World) : Prop := ∃ (A2 : Option Addr) (m2 c2 : Nat), Blk W (w.heap.size + 1) 80 #[.slice A2 m2 c2] ∧ OwnI W w.heap.size (.slice A2 m2 c2) (R0 ++ pre.map (·.2)) ∧ (R0 ++ pre.map (·.2)).length = m2 ∧ Below w.heap.size w W ∧ Blk W Bs 80 #[sv] ∧ ∀ D ∈ Ds, W.heap[D]? = some (.deferred (some []))
theorem TI.own {w : World} {R0 : List Int} {Ds : List Nat} {Bs : Nat} {sv : Value} {B : Nat} (hD : ∀ D ∈ Ds, D < B) (hB : w.heap.size ≤ B) : OwnFrom B (TI w R0 Ds Bs sv) := by
  rintro s W W' row ⟨A2, m2, c2, h1, h2, h3, h4, h6, h5⟩ hg hr
  have hne : ∀ (N : Nat) (t : TypeId) (cs : Array Value), W.heap[N]? = some (.cells cs t (0, 0)) → some N ≠ row := by
    intro N t cs hb e
    obtain ⟨_, o, ho, hc⟩ := hr N e.symm
    rw [hb] at ho
    injection ho with ho
    rw [← ho] at hc; cases hc
  refine ⟨A2, m2, c2, h1.grown hg (hne _ _ _ h1), World.ownsRow.kept h2 hg ?_, h3, h4.grown hg h4.size (fun k e => Nat.le_trans hB (hr k e).1), h6.grown hg (hne _ _ _ h6), fun D hDs => (hg.block D (Array.getElem?_eq_some_iff.1 (h5 D hDs)).1 (fun e => by have := (hr D e.symm).1; have := hD D hDs; omega)).trans (h5 D hDs)⟩
  rcases h2.2 with ⟨hv, _⟩ | ⟨g', cap, cur, hv, _, hg', _⟩
  · exact .inl (by rw [hv]; rfl)
  · exact .inr (by rw [hv]; exact hne _ _ _ hg')
theorem own_cells {w : World} {B size n : Nat} {e : TypeId} {v : Value} {xs : List Value} (h : w.ownsRow B e size v n xs) : ∀ (j : Nat) (o : Obj), v.ownBlock = some j → w.heap[j]? = some o → o.isCells = true := by
  intro j o hv ho
  rcases h.2 with ⟨hv2, _⟩ | ⟨g', cap, cur, hv2, _, hg', _⟩
  · rw [hv2] at hv; cases hv
  · rw [hv2] at hv
    have e2 : g' = j := Option.some.inj hv
    subst e2
    rw [hg'] at ho
    injection ho with ho
    rw [← ho]; rfl
theorem heap_alloc_at {W : World} {D : Nat} {x : Obj} (h : W.heap[D]? = some x) (o : Obj) : (W.alloc o).heap[D]? = some x := by
  have h1 := (Array.getElem?_eq_some_iff.1 h).1
  rw [← h]
  show (W.heap.push o)[D]? = _
  rw [Array.getElem?_push, if_neg (by omega)]
theorem heap_set_at {W : World} {D N i : Nat} {x : Obj} {u : Value} (h : W.heap[D]? = some x) (hn : D ≠ N) : (W.setCell ⟨N, i, none⟩ u).heap[D]? = some x :=
  (Below.heap_setCell W ⟨N, i, none⟩ u D hn).trans h
theorem not_blk {W : World} {D N : Nat} {t : TypeId} {cs : Array Value} (h : W.heap[D]? = some (.deferred (some []))) (hb : Blk W N t cs) : D ≠ N := fun e => by
  subst e
  have h2 : W.heap[D]? = some (.cells cs t (0, 0)) := hb
  rw [h] at h2; cases h2
set_option maxRecDepth 100000 in
set_option maxHeartbeats 2000000 in
theorem tree_in (F : Fence) (f : Nat) (h15 : F.fn 15) (h37 : F.fn 37) (h48 : F.fn 48) (hro : F.round = none) (hf : 3 ≤ f) (w : World) (hi : Nat) (A : Option Addr) (n c : Nat) (l : List (SideD × Sl)) (h : GRow sideC SideIn 4 w 0 hi ⟨A, n, c⟩ l) (hh : hi ≤ w.heap.size) (hn : n ≤ 2000) (ha : ∀ g ∈ l, g.1.args.length ≤ 268435456) :
    CallsIn F f Try.prog 15 #[.slice A n c] w (Ret w (.bool (treeP (l.map (·.1.args)) 0 [0]))) := by
  have HI := Lib.hid h
  have HN : Hid (n = l.length) := Lib.hid h.n
  have z1 : n ≤ c := h.row.2.1
  have y1 : c ≤ maxLen := h.row.2.2.1
  unfold maxLen at y1
  clear h
  obtain ⟨T, hT⟩ : ∃ T, l.map (·.1.args) = T := ⟨_, rfl⟩
  rw [hT]
  have HT := Lib.hid hT
  obtain ⟨V, hV⟩ : ∃ V, treeP T 0 [0] = V := ⟨_, rfl⟩
  have HTn : Hid (T.length = n) := Lib.hid (by rw [← hT, List.length_map, HN.out])
  have HV0 : Hid (treeP (T.drop 0) 0 ([0] : List Int).reverse = V) := Lib.hid (by rw [← hV]; rfl)
  rw [hV]
  clear hT hV
  have HO0 : Hid (OwnI ((w.alloc (.cells #[.int .i64 0] 3)).alloc (.cells #[.slice (some ⟨w.heap.size, 0, none⟩) 1 1] 80)) w.heap.size (.slice (some ⟨w.heap.size, 0, none⟩) 1 1) [0]) := Lib.hid (OwnI.alloc ⟨rfl, .inr ⟨w.heap.size, 1, #[.int .i64 0], rfl, Nat.le_refl _, Blk.new _ _ _, Nat.le_refl _, by unfold maxLen; omega, rfl, rfl⟩⟩ _)
  have HX0 : Hid (Blk ((w.alloc (.cells #[.int .i64 0] 3)).alloc (.cells #[.slice (some ⟨w.heap.size, 0, none⟩) 1 1] 80)) (w.heap.size + 1) 80 #[.slice (some ⟨w.heap.size, 0, none⟩) 1 1]) := Lib.hid (Blk.new' (by simp))
  have HB0 : Hid (Below w.heap.size w ((w.alloc (.cells #[.int .i64 0] 3)).alloc (.cells #[.slice (some ⟨w.heap.size, 0, none⟩) 1 1] 80))) := Lib.hid ((below_more (Below.refl _ _) _).alloc (by simp) _)
  refine callsIn_of_wp_marks Try.func15 rfl h15 ?_ hro
  simp only [Try.ntmps15, List.size_toArray, List.length_cons, List.length_nil, Nat.reduceAdd, Nat.reduceSub, Array.replicate_succ, Array.replicate_zero, List.push_toArray, List.append_toArray, List.nil_append, List.cons_append]
  gi_wp2
  refine wpIn_loop (fun a' W => ∃ (Ds : List Nat) (k m : Nat) (R : List Int) (A' : Option Addr) (c' : Nat) (u1 u4 u5 u6 u7 u8 u13 u14 u15 u16 u17 u18 u19 u20 u21 u22 u23 u24 u25 u26 u27 u28 u29 u30 u31 u32 u33 u34 u35 u36 u37 u38 u39 u40 u41 u42 u43 u44 u45 : Value), a' = ⟨#[.slice A n c, u1, .bool false, .pointer (some ⟨w.heap.size + 1, 0, none⟩), u4, u5, u6, u7, u8, .slice (some ⟨w.heap.size, 0, none⟩) 1 1, .slice A n c, .int .i64 (n : Int), .int .i64 (k : Int), u13, u14, u15, u16, u17, u18, u19, u20, u21, u22, u23, u24, u25, u26, u27, u28, u29, u30, u31, u32, u33, u34, u35, u36, u37, u38, u39, u40, u41, u42, u43, u44, u45], marks Ds⟩ ∧ k ≤ n ∧ m ≤ 1 + k * 268435456 ∧ Hid (R.length = m) ∧ Hid (treeP (T.drop k) k R.reverse = V) ∧ Hid (Blk W (w.heap.size + 1) 80 #[.slice A' m c']) ∧ Hid (OwnI W w.heap.size (.slice A' m c') R) ∧ Hid (Below w.heap.size w W) ∧ Hid (Ds.Nodup ∧ ∀ D ∈ Ds, w.heap.size ≤ D ∧ W.heap[D]? = some (.deferred (some []))))
    (fun a' _ => n - (intOf (a'.tmps.getD 12 undef)).toNat) ?start ?round
  case start => exact ⟨[], 0, 1, [0], _, 1, _, _, _, _, _, _, _, _, _, _, _, _, _, _, _, _, _, _, _, _, _, _, _, _, _, _, _, _, _, _, _, _, _, _, _, _, _, _, _, rfl, Nat.zero_le _, by omega, Lib.hid rfl, HV0, HX0, HO0, HB0, Lib.hid ⟨List.nodup_nil, by simp⟩⟩
  case round =>
    intro a' wo hinv
    obtain ⟨Ds, k, m, R, A1, c1, u1, u4, u5, u6, u7, u8, u13, u14, u15, u16, u17, u18, u19, u20, u21, u22, u23, u24, u25, u26, u27, u28, u29, u30, u31, u32, u33, u34, u35, u36, u37, u38, u39, u40, u41, u42, u43, u44, u45, rfl, hk, hm, HL, HV, HX, HO, HB, HD⟩ := hinv
    have hsx := HX.out.lt
    have hsz := HB.out.size
    have cb := (HX.out.cell 0).trans (show _ = some (.slice A1 m c1) from rfl)
    have fb := HX.out.frozen 0
    by_cases hlt : k < n
    · obtain ⟨b, o, hA, _, hb, VV⟩ := HI.out.at_ (fun _ => rfl) (show 0 < n by omega)
      simp only at hA
      subst hA
      obtain ⟨x, hx⟩ : ∃ x, l[k]? = some x := ⟨l[k]'(by have := HN.out; omega), List.getElem?_eq_getElem _⟩
      obtain ⟨hlf, hat⟩ := VV k x hx
      have hax := ha x (List.mem_of_getElem? hx)
      obtain ⟨⟨x1, x2, x3, xa⟩, ⟨Aa, na, ca⟩⟩ := x
      simp only at hax
      have q0 : wo.cell? ⟨b, o + k * 4, none⟩ = some (.int .i64 x1) := (HB.out.cell (p := ⟨_, _, none⟩) (show b < w.heap.size by omega)).trans (hat 0 _ (by omega) rfl)
      have q1 : wo.cell? ⟨b, o + k * 4 + 1, none⟩ = some (.string x2) := (HB.out.cell (p := ⟨_, _, none⟩) (show b < w.heap.size by omega)).trans (hat 1 _ (by omega) rfl)
      have q2 : wo.cell? ⟨b, o + k * 4 + 2, none⟩ = some (.int .i64 x3) := (HB.out.cell (p := ⟨_, _, none⟩) (show b < w.heap.size by omega)).trans (hat 2 _ (by omega) rfl)
      have q3 : wo.cell? ⟨b, o + k * 4 + 3, none⟩ = some (.slice Aa na ca) := (HB.out.cell (p := ⟨_, _, none⟩) (show b < w.heap.size by omega)).trans (hat 3 _ (by omega) rfl)
      have HTk : Hid (T[k]? = some xa) := Lib.hid (by rw [← HT.out, List.getElem?_map, hx]; rfl)
      have HNa : Hid (na = xa.length) := Lib.hid hlf.an
      have HRa : Hid (Row w 0 hi 1 Aa na ca (intCells xa)) := Lib.hid hlf.a
      clear hlf hat VV hx
      by_cases hm0 : 0 < m
      · obtain ⟨m0, rfl⟩ : ∃ m0, m = m0 + 1 := ⟨m - 1, by omega⟩
        obtain ⟨R0, t, hR⟩ : ∃ R0 t, R = R0 ++ [t] := by
          rcases List.eq_nil_or_concat R with e | ⟨R0, t, e⟩
          · have := HL.out; rw [e] at this; simp at this
          · exact ⟨R0, t, by simpa using e⟩
        have hR0 : R0.length = m0 := by have := HL.out; rw [hR] at this; simpa using this
        obtain ⟨g, rfl, hc1, hc2⟩ := own_someI HO.out HL.out (by omega)
        unfold maxLen at hc2
        have ct : wo.cell? ⟨g, m0, none⟩ = some (.int .i64 t) := own_atI HO.out HL.out (by rw [hR, List.getElem?_append_right (by omega), hR0]; simp)
        have HO2 : Hid (OwnI wo w.heap.size (.slice (some ⟨g, 0, none⟩) m0 c1) R0) := Lib.hid (own_takeI HO.out HL.out (by omega) (by rw [hR, List.take_append_of_le_length (by omega), List.take_of_length_le (by omega)]) hR0)
        have HV2 : Hid (treeP (T.drop k) k (t :: R0.reverse) = V) := Lib.hid (by rw [← HV.out, hR, List.reverse_append]; rfl)
        have HR0 := Lib.hid hR0
        have hgl : g < wo.heap.size := (World.ownsRow.lt HO.out g rfl).2
        clear hR hR0 HV HL HO hm0
        by_cases htk : t = (k : Int)
        · subst htk
          have HV3 : Hid (treeP (T.drop (k + 1)) (k + 1) (xa ++ R0.reverse) = V) := Lib.hid (by rw [← HV2.out, treeP_go HTk.out])
          clear HV2
          have h1f : 1 ≤ f := by omega
          gi_wp2_with (gi_at_call 37; refine (back_in F (f - 1) h37 hro _ _ _ _).mono ?_; rintro e w' ⟨rfl, rfl⟩)
          obtain ⟨W1, hW1⟩ : ∃ W1, (((wo.setCell ⟨w.heap.size + 1, 0, none⟩ (.slice (some ⟨g, 0, none⟩) m0 c1)).alloc (.cells #[.int .i64 x1, .string x2, .int .i64 x3, .slice Aa na ca] 82)).alloc (.cells #[.slice Aa na ca] 80)) = W1 := ⟨_, rfl⟩
          have hs1 : W1.heap.size = wo.heap.size + 2 := by rw [← hW1]; simp
          have HX1 : Hid (Blk W1 (w.heap.size + 1) 80 #[.slice (some ⟨g, 0, none⟩) m0 c1]) := Lib.hid (by rw [← hW1]; have := ((HX.out.set_ 0 (.slice (some ⟨g, 0, none⟩) m0 c1)).alloc (.cells #[.int .i64 x1, .string x2, .int .i64 x3, .slice Aa na ca] 82)).alloc (.cells #[.slice Aa na ca] 80); simpa using this)
          have HO1 : Hid (OwnI W1 w.heap.size (.slice (some ⟨g, 0, none⟩) m0 c1) R0) := Lib.hid (by rw [← hW1]; exact OwnI.alloc (OwnI.alloc (own_other HO2.out HX.out (by decide) 0 _) _) _)
          have HB1 : Hid (Below w.heap.size w W1) := Lib.hid (by rw [← hW1]; exact ((HB.out.setCell (p := ⟨w.heap.size + 1, 0, none⟩) (Nat.le_succ _) _).alloc (by simp; omega) _).alloc (by simp; omega) _)
          have HD1 : Hid (∀ D ∈ Ds, D < wo.heap.size ∧ W1.heap[D]? = some (.deferred (some []))) := Lib.hid fun D hD => ⟨(Array.getElem?_eq_some_iff.1 (HD.out.2 D hD).2).1, by rw [← hW1]; exact heap_alloc_at (heap_alloc_at (heap_set_at (HD.out.2 D hD).2 (not_blk (HD.out.2 D hD).2 HX.out)) _) _⟩
          have hb0 : Blk W1 (wo.heap.size + 1) 80 #[.slice Aa na ca] := by rw [← hW1]; exact Blk.new' (by simp)
          have hbs : W1.cell? ⟨wo.heap.size + 1, 0, none⟩ = some (.slice Aa na ca) := hb0.cell 0
          have hIA : IntsAt w.heap.size W1 (.slice Aa na ca) xa := intsAt_of HRa.out HNa.out hh HB1.out
          have HNl : Hid (R0.length = m0) := HR0
          have hbz := HB1.out.size
          rw [hW1]
          clear hW1 cb fb ct q0 q1 q2 q3
          refine wpIn_rangeFunc_ownF hro h1f (gf := 48) (lb := #[.pointer (some ⟨wo.heap.size + 1, 0, none⟩)]) rfl h48 (enters_of Try.func48 (by kernel_rfl) rfl)
            (back_stops F (f - 1) h48 hro (by omega) (wo.heap.size + 1) w.heap.size _ xa (by omega) W1 (by omega) (by omega) hbs hIA) KpB.trans (kpB_b (by omega)) (Below.refl _ _) (fun _ => rfl)
            (TI w R0 Ds (wo.heap.size + 1) (.slice Aa na ca)) (fun _ _ _ => False) (TI.own (fun D hD => by have := (HD1.out D hD).1; omega) (by omega)) (fun _ _ _ _ _ h _ _ => h)
            ⟨some ⟨g, 0, none⟩, m0, c1, HX1.out, by simpa using HO1.out, by simpa using HNl.out, HB1.out, hb0, fun D hD => (HD1.out D hD).2⟩
            (fun x => { tmps := #[.slice (some ⟨b, o, none⟩) n c, u1, .bool false, .pointer (some ⟨w.heap.size + 1, 0, none⟩), .int .i64 k, .pointer (some ⟨wo.heap.size, 0, none⟩), .int .i64 m0, u7, .int .i64 x.2, .slice (some ⟨w.heap.size, 0, none⟩) 1 1, .slice (some ⟨b, o, none⟩) n c, .int .i64 n, .int .i64 k, .bool true, .int .i64 k, .pointer (some ⟨b, o + k * 4, none⟩), .agg #[.int .i64 x1, .string x2, .int .i64 x3, .slice Aa na ca], .slice (some ⟨g, 0, none⟩) (m0 + 1) c1, .int .i64 ((m0 : Int) + 1), .int .i64 m0, .int .i64 m0, .bool (decide ((m0 : Int) < 0)), .bool (decide ((m0 : Int) < 0)), .slice (some ⟨g, 0, none⟩) (m0 + 1) c1, .int .i64 m0, .pointer (some ⟨g, m0, none⟩), .int .i64 k, .int .i64 k, .bool false, .bool (decide ((m0 : Int) < 0)), .slice (some ⟨g, 0, none⟩) (m0 + 1) c1, .int .i64 m0, .slice (some ⟨g, 0, none⟩) m0 c1, .pointer (some ⟨wo.heap.size, 3, none⟩), .slice Aa na ca, .func (.func 48) #[] #[.pointer (some ⟨wo.heap.size + 1, 0, none⟩)], .int .i64 (x.1 : Int), .int .i64 x.2, u38, u39, u40, u41, u42, u43, u44, u45], defers := [] }) ?assign ?body ?done ?stop
          case assign =>
            intro l x W K hK
            gi_wp2
            exact hK
          case body =>
            rintro l pre x W ⟨A2, m2, c2, hX2, hO2, hL2, hB2, hBs2, hM2⟩ hlt2
            obtain ⟨i0, hi0, hz0, hz1, hz2⟩ := info_parts info_int
            have hneI : (3 : TypeId) ≠ 80 := by decide
            have hO3 : W.ownsRow w.heap.size 3 1 (.slice A2 m2 c2) m2 (intCells (R0 ++ pre.map (·.2))) := by have := hO2; unfold OwnI at this; rw [hL2] at this; exact this
            have hm2 : m0 + pre.length = m2 := by rw [← hL2, List.length_append, List.length_map, HNl.out]
            have HM2 := Lib.hid hm2
            have cb2 := (hX2.cell 0).trans (show _ = some (.slice A2 m2 c2) from rfl)
            have fb2 := hX2.frozen 0
            have hsx2 := hX2.lt
            have hsz2 := hB2.size
            have hm3 : m2 ≤ 1099511627776 := by have := HNa.out; omega
            clear hm2
            gi_wp2_with (gi_at_builtin; refine wpListIn_append_own _ rfl _ _ 80 rfl w.heap.size 3 i0 (.int .i64 0) 1 8 Try.underlying80 hi0 hz0 hz1 hz2 rfl (by decide) (.slice A2 m2 c2) m2 (intCells (R0 ++ pre.map (·.2))) rfl (World.ownsRow.alloc hO3 _) ⟨W.heap.size, 0, none⟩ 1 1 [.int .i64 x.2] rfl rfl (cell_one_new _ _ _) (by simp [Value.oneCell']) (by unfold maxLen; omega) (by omega) (by simp; omega) ?_; intro v' w1 hown' hgrow _; obtain ⟨A3, c3, rfl⟩ := own_form hown'; have hX3 := Blk.grown (hX2.alloc (.cells #[.int .i64 x.2] 3)) hgrow (Ne.symm (own_blk_ne (World.ownsRow.alloc hO3 (.cells #[.int .i64 x.2] 3)) (hX2.alloc (.cells #[.int .i64 x.2] 3)) hneI)); have hY3 := Blk.grown (hBs2.alloc (.cells #[.int .i64 x.2] 3)) hgrow (Ne.symm (own_blk_ne (World.ownsRow.alloc hO3 (.cells #[.int .i64 x.2] 3)) (hBs2.alloc (.cells #[.int .i64 x.2] 3)) hneI)); have cb3 := hX3.cell 0; have fb3 := hX3.frozen 0)
            have hKO := ((KeepsOthers.alloc W (.cells #[.int .i64 x.2] 3)).trans (KeepsOthers.of_grownBy hgrow (own_cells (World.ownsRow.alloc hO3 (.cells #[.int .i64 x.2] 3))))).trans (KeepsOthers.setCell w1 ⟨w.heap.size + 1, 0, none⟩ (.slice A3 (m2 + 1) c3))
            have hBW : Below w.heap.size W (w1.setCell ⟨w.heap.size + 1, 0, none⟩ (.slice A3 (m2 + 1) c3)) := ((((Below.refl _ W).alloc hsz2 (.cells #[.int .i64 x.2] 3)).grown hgrow (by simp; omega) (fun k hk => (World.ownsRow.lt (World.ownsRow.alloc hO3 (.cells #[.int .i64 x.2] 3)) k hk).1))).setCell (p := ⟨w.heap.size + 1, 0, none⟩) (Nat.le_succ _) _
            have hBs3 : Blk (w1.setCell ⟨w.heap.size + 1, 0, none⟩ (.slice A3 (m2 + 1) c3)) (wo.heap.size + 1) 80 #[.slice Aa na ca] := (Below.heap_setCell w1 ⟨w.heap.size + 1, 0, none⟩ _ _ (show wo.heap.size + 1 ≠ w.heap.size + 1 by omega)).trans hY3
            have hap : R0 ++ (pre ++ [x]).map (·.2) = (R0 ++ pre.map (·.2)) ++ [x.2] := by simp
            refine ⟨hKO, ⟨hBW, fun v hv => ?_⟩, A3, m2 + 1, c3, by simpa using hX3.set_ 0 (.slice A3 (m2 + 1) c3), ?_, by rw [hap, List.length_append, hL2]; rfl, hB2.trans hBW, hBs3, fun D hD => hKO.same D _ (hM2 D hD) rfl⟩
            · rw [hBs2.cell 0] at hv; rw [hBs3.cell 0]; exact hv
            · rw [hap]
              have h7 := own_other hown' hX3 hneI 0 (.slice A3 (m2 + 1) c3)
              unfold OwnI
              rw [List.length_append, hL2]
              simpa [intCells] using h7
          case done =>
            rintro D ys W hDs rfl ⟨A2, m2, c2, hX2, hO2, hL2, hB2, hBs2, hM2⟩ hK
            rw [comes_back] at hO2 hL2
            have hm2 : m0 + na = m2 := by rw [← hL2, List.length_append, List.length_reverse, HNl.out, HNa.out]
            have HM2 := Lib.hid hm2
            have HV4 : Hid (treeP (T.drop (k + 1)) (k + 1) (R0 ++ xa.reverse).reverse = V) := Lib.hid (by rw [← HV3.out, List.reverse_append, List.reverse_reverse])
            have HDn : Hid ((D :: Ds).Nodup ∧ ∀ D' ∈ D :: Ds, w.heap.size ≤ D' ∧ W.heap[D']? = some (.deferred (some []))) := Lib.hid ⟨List.nodup_cons.2 ⟨fun hD => by have := (HD1.out D hD).1; omega, HD.out.1⟩, fun D' hD' => by
              rcases List.mem_cons.1 hD' with rfl | hD'
              · exact ⟨by omega, hK⟩
              · exact ⟨(HD.out.2 D' hD').1, hM2 D' hD'⟩⟩
            clear hm2
            gi_wp2
            refine ⟨⟨D :: Ds, k + 1, m2, R0 ++ xa.reverse, A2, c2, _, _, _, _, _, _, _, _, _, _, _, _, _, _, _, _, _, _, _, _, _, _, _, _, _, _, _, _, _, _, _, _, _, _, _, _, _, _, _, rfl, by omega, by have := HM2.out; have := HNa.out; omega, Lib.hid hL2, HV4, Lib.hid hX2, Lib.hid hO2, Lib.hid hB2, HDn⟩, ?_⟩
            simp [intOf]; omega
          case stop =>
            rintro D c pre W _ _ h _
            exact h.elim
        · have HF : Hid (V = false) := Lib.hid (by rw [← HV2.out, treeP_other HTk.out htk])
          have hne : (t != (k : Int)) = true := by rw [bne_iff_ne]; exact htk
          gi_wp2
          refine leave_marks (fun W => Below w.heap.size w W) (fun W hW => ⟨_, results_tmp rfl _ _ _, ?_⟩) Ds _ HD.out.1 (fun D hD => heap_alloc_at (HD.out.2 D hD).2 _) (fun W D hD hd hW => ?_) (HB.out.alloc hsz _)
          · exact ⟨by rw [HF.out]; rfl, hW⟩
          · exact hW.trans (belowK_b (w := w) (Nat.le_refl _) W D _ _ (HD.out.2 D hD).1 hd rfl rfl)
      · have hm00 : m = 0 := by omega
        subst hm00
        have HF : Hid (V = false) := Lib.hid (by
          have h1 : R = [] := List.length_eq_zero_iff.1 HL.out
          rw [← HV.out, h1, List.reverse_nil, treeP_none HTk.out])
        gi_wp2
        refine leave_marks (fun W => Below w.heap.size w W) (fun W hW => ⟨_, results_tmp rfl _ _ _, ?_⟩) Ds _ HD.out.1 (fun D hD => heap_alloc_at (HD.out.2 D hD).2 _) (fun W D hD hd hW => ?_) (HB.out.alloc hsz _)
        · exact ⟨by rw [HF.out]; rfl, hW⟩
        · exact hW.trans (belowK_b (w := w) (Nat.le_refl _) W D _ _ (HD.out.2 D hD).1 hd rfl rfl)
    · have hkn : k = n := by omega
      have HF : Hid (V = ((m : Int) == 0)) := Lib.hid (by
        rw [← HV.out, hkn, ← HTn.out, treeP_end]
        rw [Bool.eq_iff_iff, List.isEmpty_iff, List.reverse_eq_nil_iff, beq_iff_eq]
        have := HL.out
        constructor
        · rintro rfl; simp at this; omega
        · intro h; exact List.length_eq_zero_iff.1 (by omega))
      gi_wp2
      refine leave_marks (fun W => Below w.heap.size w W) (fun W hW => ⟨_, results_tmp rfl _ _ _, ?_⟩) Ds _ HD.out.1 (fun D hD => (HD.out.2 D hD).2) (fun W D hD hd hW => ?_) HB.out
      · exact ⟨by rw [HF.out]; rfl, hW⟩
      · exact hW.trans (belowK_b (w := w) (Nat.le_refl _) W D _ _ (HD.out.2 D hD).1 hd rfl rfl)
end Go.Proofs.Ytbnjblejbnapgaa
namespace Go.Proofs.Ytbnjblejbnapgaa
open Go Go.Proofs Go.RowKit Go.Shelf
set_option linter.unusedVariables false
theorem tree_any (w : World) (hi : Nat) (A : Option Addr) (n c : Nat) (l : List (SideD × Sl)) (h : GRow sideC SideIn 4 w 0 hi ⟨A, n, c⟩ l) (hh : hi ≤ w.heap.size) (hn : n ≤ 2000) (ha : ∀ g ∈ l, g.1.args.length ≤ 268435456) :
    Calls Try.prog 15 #[.slice A n c] w (Ret w (.bool (treeD n (l.map (·.1.args)) 0 [0]))) := by
  rw [← tree_same n _ 0 [0] (by rw [List.length_map]; have := h.n; simp only at this; omega)]
  exact (callsIn_wide (n := 3)).1 (tree_in _ 3 trivial trivial trivial rfl (by omega) w hi A n c l h hh hn ha)
end Go.Proofs.Ytbnjblejbnapgaa
namespace Go.Proofs.Ytbnjblejbnapgaa
open Go Go.RowKit Go.Sort
set_option linter.unusedVariables false
/-- own rows of any kind: what they hold is not told -/
def OwnAny (w : World) (B : Nat) (T : TypeId) (size : Nat) (A : Option Addr) (n c : Nat) : Prop := ∃ xs, w.ownsRow B T size (.slice A n c) n xs
theorem OwnAny.some_ {w : World} {B size n c : Nat} {T : TypeId} {A : Option Addr} (h : OwnAny w B T size A n c) (hn : 0 < n) : ∃ g, A = some ⟨g, 0, none⟩ ∧ B ≤ g ∧ g < w.heap.size ∧ n ≤ c ∧ c ≤ maxLen := by
  obtain ⟨xs, h⟩ := h
  have hr := own_row h
  rcases h.2 with ⟨hv, h0⟩ | ⟨g, cap, cur, hv, hb, hg, _⟩
  · omega
  · injection hv with h1
    exact ⟨g, h1, hb, (Array.getElem?_eq_some_iff.1 hg).1, hr.2.1, hr.2.2.1⟩
theorem OwnAny.after {w w' : World} {B size n c : Nat} {T : TypeId} {A : Option Addr} (h : OwnAny w B T size A n c) (hb : Below w.heap.size w w') : OwnAny w' B T size A n c := h.imp fun _ h => own_after h hb
theorem OwnAny.mono {w : World} {B B' size n c : Nat} {T : TypeId} {A : Option Addr} (h : OwnAny w B T size A n c) (hB : B' ≤ B) : OwnAny w B' T size A n c := h.imp fun _ h => own_mono h hB
/-- a store into an element's first cell: that cell is there, and what else stays -/
theorem OwnAny.spoil {w : World} {B size n c g k : Nat} {T : TypeId} (h : OwnAny w B T size (some ⟨g, 0, none⟩) n c) (hs : 0 < size) (hk : k < n) (u : Value) :
    (∃ v, w.cell? ⟨g, k * size, none⟩ = some v) ∧ w.frozen? ⟨g, k * size, none⟩ = false ∧ OwnAny (w.setCell ⟨g, k * size, none⟩ u) B T size (some ⟨g, 0, none⟩) n c ∧ w.grownBy (w.setCell ⟨g, k * size, none⟩ u) (some g) := by
  obtain ⟨xs, h⟩ := h
  have hlt : k * size < n * size := by
    have : (k + 1) * size ≤ n * size := Nat.mul_le_mul_right _ hk
    rw [Nat.add_mul] at this
    omega
  have hc := World.ownsRow.cellAt h (k * size) hlt
  have hst := World.ownsRow.stored h (k * size) u
  refine ⟨?_, World.ownsRow.frozenAt h _, ⟨_, hst.1⟩, hst.2⟩
  rw [List.getElem?_eq_getElem (by rw [h.1]; exact hlt)] at hc
  exact ⟨_, hc⟩
/-- an own row of another type stays -/
theorem OwnAny.kept {w w' : World} {B B' size size' n n' c c' : Nat} {T T' : TypeId} {A : Option Addr} {g : Nat} (h : OwnAny w B T size A n c) (h' : OwnAny w B' T' size' (some ⟨g, 0, none⟩) n' c') (hne : T ≠ T') (hg : w.grownBy w' (some g)) : OwnAny w' B T size A n c := by
  obtain ⟨xs, h⟩ := h
  obtain ⟨ys, h'⟩ := h'
  exact ⟨xs, own_kept (v' := .slice (some ⟨g, 0, none⟩) n' c') h h' hne hg⟩
/-- a box stays -/
theorem OwnAny.box {w w' : World} {B size n c g N : Nat} {T t : TypeId} {cs : Array Value} (h : OwnAny w B T size (some ⟨g, 0, none⟩) n c) (hb : Blk w N t cs) (hne : T ≠ t) (hg : w.grownBy w' (some g)) : Blk w' N t cs := by
  obtain ⟨xs, h⟩ := h
  exact hb.grown hg (fun e => own_blk_ne h hb hne (by rw [e]; rfl))
end Go.Proofs.Ytbnjblejbnapgaa

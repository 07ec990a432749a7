/-
  WALKS over package lex: Join.
  NODES OF EXPRESSIONS IN MEMORY; the tables of packages expr.
  WALKS over the statements' own functions: awake, alike, same.
-/
import Derived.Test.YtjlpoigcalfdlaaDoorZB8
import Derived.Lib.ItoaLen
import Derived.KernelRfl
import Derived.BigQuiet
namespace Go.Proofs.YtjlpoigcalfdlaaDoor
open Go Go.RowKit
set_option linter.unusedVariables false
def tailT (l : List Tok) : List UInt8 := l.flatMap (fun k => 32 :: formT k)
def joinT : List Tok → List UInt8
  | [] => []
  | k :: l => formT k ++ tailT l
def joinR (l : List Tok) : List UInt8 × Int := if l.all may = false then ([], 2) else if 4096 < (joinT l).length then ([], 3) else (joinT l, 0)
theorem joinT_snoc (l : List Tok) (k : Tok) (h : l ≠ []) : joinT (l ++ [k]) = joinT l ++ [32] ++ formT k := by
  cases l with
  | nil => exact absurd rfl h
  | cons a l => simp [joinT, tailT, List.flatMap_append]
theorem joinT_take0 {l : List Tok} {k : Tok} (h : l[0]? = some k) : joinT (l.take (0 + 1)) = formT k := by
  rw [List.take_add_one, h]; simp [joinT, tailT]
theorem joinT_take {l : List Tok} {k : Tok} {j : Nat} (h : l[j]? = some k) (hj : 0 < j) : joinT (l.take (j + 1)) = joinT (l.take j) ++ [32] ++ formT k := by
  rw [List.take_add_one, h]
  refine joinT_snoc _ _ ?_
  intro e
  have := congrArg List.length e
  rw [List.length_take, List.length_nil] at this
  have := (List.getElem?_eq_some_iff.1 h).1
  omega
theorem joinT_len_append (a b : List Tok) : (joinT a).length ≤ (joinT (a ++ b)).length := by
  cases a with
  | nil => simp [joinT]
  | cons k a => simp [joinT, tailT, List.flatMap_append]
theorem joinT_mono (l : List Tok) (j : Nat) : (joinT (l.take j)).length ≤ (joinT l).length := by
  have := joinT_len_append (l.take j) (l.drop j)
  rwa [List.take_append_drop] at this
theorem form_ge {k : Tok} (h : may k = true) : k.text.size ≤ (formT k).length := by
  unfold formT
  by_cases h1 : k.kind = 1
  · unfold may at h
    rw [if_pos h1, Bool.and_eq_true] at h
    have : k.text.data.toList = [] := by simpa using h.2
    have e := toList_eq k.text
    rw [this] at e
    simp at e; omega
  · rw [if_neg h1]
    by_cases h2 : k.kind = 2
    · rw [if_pos h2]
      have := flat_ge k.text.data.toList
      rw [toList_eq] at this
      have : (quote k.text.data.toList).length = (k.text.data.toList.flatMap form).length + 2 := by unfold quote; rw [List.length_append, List.length_cons]; rfl
      omega
    · rw [if_neg h2, toList_eq]; exact Nat.le_refl _
theorem form_in {l : List Tok} {k : Tok} {j : Nat} (h : l[j]? = some k) : (formT k).length ≤ (joinT l).length := by
  refine Nat.le_trans ?_ (joinT_mono l (j + 1))
  by_cases hj : j = 0
  · subst hj; rw [joinT_take0 h]; exact Nat.le_refl _
  · rw [joinT_take h (by omega), List.length_append]; omega
theorem joinR_long {l : List Tok} (ha : l.all may = true) (h : 4096 < (joinT l).length) : joinR l = ([], 3) := by unfold joinR; rw [if_neg (by rw [ha]; simp), if_pos h]
theorem joinR_fin {l : List Tok} {j : Nat} (ha : l.all may = true) (h : (joinT (l.take j)).length ≤ 4096) (hj : l.length ≤ j) : joinR l = (joinT (l.take j), 0) := by
  rw [List.take_of_length_le hj] at h ⊢
  unfold joinR; rw [if_neg (by rw [ha]; simp), if_neg (by omega)]
theorem form_le {k : Tok} (hk : TokOk k) (h : k.text.size ≤ 4096) : (formT k).length ≤ 20000 := by
  unfold formT
  split
  · have := Lib.itoa_length_le k.int hk.i0 hk.i1; omega
  · split
    · have := flat_length k.text.data.toList
      rw [toList_eq] at this
      have : (quote k.text.data.toList).length = (k.text.data.toList.flatMap form).length + 2 := by unfold quote; rw [List.length_append, List.length_cons]; rfl
      omega
    · rw [toList_eq]; omega
def JoinPost (w : World) (r : List UInt8 × Int) (e : Ending) (w' : World) : Prop := e = .returned (.tuple #[.string (ba r.1), .int .i64 r.2]) ∧ Below w.heap.size w w'
theorem joinPost {w w' : World} {r : List UInt8 × Int} {t : ByteArray} {c : Int} (h : r = (t.data.toList, c)) (hb : Below w.heap.size w w') : JoinPost w r (.returned (.tuple #[.string t, .int .i64 c])) w' := by
  rw [h]; exact ⟨by rw [ba_list'], hb⟩
theorem app_bytes2 {w : World} {ops : Array Oper} {rest : List Oper} {o : Oper} {a : Act} {Q : Exit → Act → World → Prop} (hgd : o.guard = none) (s x : Operand)
    (ho : o.op = .call { callee := .builtin .append, args := #[s, x], argTypes := #[88, 88] })
    (B : Nat) (v : Value) (l : List UInt8) (hs : a.eval s = v) (hown : ownB w B v l) (ad : Addr) (m c : Nat) (news : List UInt8) (hx : a.eval x = .slice (some ad) m c) (hl : news.length = m)
    (hnews : ∀ j u, (news.map enc)[j]? = some u → w.cell? (ad.add j) = some u) (hroom : l.length + m ≤ 140737488355328) (hB : B ≤ w.heap.size)
    (h : ∀ v' w', ownB w' B v' (l ++ news) → w.grownBy w' v.ownBlock → Below B w w' → wpList Tryd.prog ops Q rest (a.put o.dst v') w') : wpList Tryd.prog ops Q (o :: rest) a w := by
  obtain ⟨i0, hi, hz0, hz1, hz2⟩ := info_parts byteInfo
  refine wpList_append_own w hgd s x _ ho B 5 i0 (.int .u8 0) 1 1 Tryd.underlying88 hi hz0 hz1 hz2 rfl (by decide) v l.length (l.map enc) hs hown ad m c (news.map enc) hx (by simp [hl]) hnews (enc_one _) (by unfold maxLen; omega) (by omega) hB ?_
  intro v' w' hown' hg _
  refine h v' w' ?_ hg (ownB.grown hown hB hg)
  unfold ownB
  rw [List.length_append, List.map_append, hl]
  exact hown'
theorem cells_new' {w : World} {g : Nat} (hg : g = w.heap.size) (news : List UInt8) (cs : Array Value) (T : TypeId) (hc : cs.toList = news.map enc) : ∀ j u, (news.map enc)[j]? = some u → (w.alloc (.cells cs T)).cell? ((⟨g, 0, none⟩ : Addr).add j) = some u := by
  subst hg; exact cells_new w news cs T hc
theorem tokBox_grown {Y Y' : World} {B : Nat} {v : Value} {I : List UInt8} {g : Nat} {cs : Array Value} (hO : ownB Y B v I) (hb : Blk Y g 105 cs) (hg : Y.grownBy Y' v.ownBlock) : Blk Y' g 105 cs :=
  hb.grown hg (Ne.symm (own_blk_ne hO hb (by decide)))
theorem ba_size (l : List UInt8) : (ba l).size = l.length := by rw [← toList_eq, ba_data]
theorem ownB_form {w : World} {B : Nat} {v : Value} {l : List UInt8} (h : ownB w B v l) : ∃ A c, v = .slice A l.length c := own_form h
set_option maxHeartbeats 3200000 in
theorem join_any (w : World) (hi : Nat) (A : Option Addr) (n c : Nat) (l : List Tok) (h : TokIn w hi A n c l) (hh : hi ≤ w.heap.size) (ht : ∀ k ∈ l, TokOk k) (hL : LexEnv w) :
    Calls Tryd.prog 58 #[.slice A n c] w (JoinPost w (joinR l)) := by
  have HC : Hid (Calls Tryd.prog 67 #[.slice A n c, .func (.func 68) #[] #[]] w (Tells1 w (!l.all may))) := Lib.hid (containsFunc_any w hi A n c l h hh ht hL)
  have hl := h.len
  have hn := h.max
  have HI : Hid (∀ Y, Below w.heap.size w Y → TokIn Y hi A n c l) := Lib.hid fun Y hb => h.below (hb.mono hh)
  have HF : Hid (∀ k ∈ l, k.text.size ≤ 4096 → ∀ Y, Below w.heap.size w Y → Calls Tryd.prog 70 #[.agg #[.int .i64 k.kind, .string k.text, .int .i64 k.int, .int .i64 k.place]] Y (SaidText Y (ba (formT k)))) := Lib.hid fun k hk h4 Y hb => form_any k Y (ht k hk) (fun _ => h4) (hL.below hb)
  have HTS : Hid (∀ k ∈ l, k.text.size ≤ 140737488355328 ∧ (k.text.size ≤ 4096 → (formT k).length ≤ 20000)) := Lib.hid fun k hk => ⟨(ht k hk).t, form_le (ht k hk)⟩
  unfold maxLen at hn
  clear h ht hL
  cases ha : l.all may with
  | false =>
    rw [ha] at HC
    have HR := Lib.hid (show joinR l = (([] : List UInt8), (2 : Int)) from by unfold joinR; rw [if_pos ha])
    clear ha
    go_enter Tryd.func58, Tryd.ntmps58
    go_wp2_with (go_at_call 67; refine HC.out.mono ?_; rintro e w1 ⟨rfl, hb1⟩)
    go_ret2
    exact joinPost HR.out hb1
  | true =>
    rw [ha] at HC
    have HA : Hid (l.all may = true) := Lib.hid ha
    clear ha
    go_enter Tryd.func58, Tryd.ntmps58
    go_wp2_with (go_at_call 67; refine HC.out.mono ?_; rintro e w1 ⟨rfl, hb1⟩)
    go_loopw [4, 5, 6, 11] (fun v _ _ i wr => ∃ j : Nat, j ≤ n ∧ i = .int .i64 j ∧ ownB wr w.heap.size v (joinT (l.take j)) ∧ (joinT (l.take j)).length ≤ 4096 ∧ Below w.heap.size w wr) (fun _ _ _ i _ => n - (intOf i).toNat)
    case atStart => exact ⟨0, by omega, rfl, by simpa [joinT] using ownB.nil _ _, by simp [joinT], hb1⟩
    case round =>
      obtain ⟨j, hj, rfl, hown, hlen, hb⟩ := hrel
      have hszr : w.heap.size ≤ wr.heap.size := hb.size
      by_cases hlt : j < n
      · obtain ⟨b, o, t, rfl, hbl, htk, hc⟩ := (HI.out wr hb).at_ hlt
        have c0 := hc.c0
        have c1 := hc.c1
        have c2 := hc.c2
        have c3 := hc.c3
        have HB := Lib.hid hb
        have HTK := Lib.hid htk
        have HMY : Hid (may t = true) := Lib.hid (List.all_eq_true.1 HA.out t (List.mem_of_getElem? htk))
        have hts := HTS.out t (List.mem_of_getElem? htk)
        obtain ⟨J, hJ⟩ : ∃ J, joinT (l.take (j + 1)) = J := ⟨_, rfl⟩
        obtain ⟨I, hI⟩ : ∃ I, joinT (l.take j) = I := ⟨_, rfl⟩
        rw [hI] at hown hlen
        have HJT := Lib.hid hJ
        obtain ⟨av, cv, rfl⟩ := ownB_form hown
        have HO := Lib.hid hown
        clear hc hb hown
        by_cases h0 : j = 0
        · have HJ : Hid (I ++ formT t = J) := Lib.hid (by subst h0; rw [← hJ, ← hI, joinT_take0 htk]; rfl)
          have hj0 : ¬ 0 < j := by omega
          clear hI hJ htk h0
          by_cases h4 : t.text.size ≤ 4096
          · have HFT := Lib.hid (HF.out t (List.mem_of_getElem? HTK.out) h4)
            have hfl := hts.2 h4
            by_cases hJ4 : J.length ≤ 4096
            · have d4 : decide ((4096 : Int) < (J.length : Int)) = false := by simp; omega
              go_wp2_with (first | (go_at_call 70; go_must (refine (HFT.out _ (HB.out.alloc hszr _)).mono ?_; rintro e w2 ⟨rfl, hb2⟩)) | (at_builtin; go_must (refine app_str rfl _ _ rfl w.heap.size _ I rfl ((HO.out.alloc _).below hb2) (ba (formT t)) rfl (by rw [ba_size]; omega) (by have := hb2.size; simp at this; omega) ?_; intro v3 w3 hown3 hb3; rw [ba_data, HJ.out] at hown3; obtain ⟨a3, cc3, rfl⟩ := ownB_form hown3; have HO3 := Lib.hid hown3; clear hown3)))
              exact ⟨⟨j + 1, by omega, by go_num, by rw [HJT.out]; exact HO3.out, by rw [HJT.out]; exact hJ4, ((HB.out.alloc hszr _).trans ((hb2.mono (by simp; omega)).trans hb3))⟩, by simp [intOf]; omega⟩
            · have d4 : decide ((4096 : Int) < (J.length : Int)) = true := by simp; omega
              have HR := Lib.hid (joinR_long HA.out (by have := joinT_mono l (j + 1); rw [HJT.out] at this; omega))
              go_wp2_with (first | (go_at_call 70; go_must (refine (HFT.out _ (HB.out.alloc hszr _)).mono ?_; rintro e w2 ⟨rfl, hb2⟩)) | (at_builtin; go_must (refine app_str rfl _ _ rfl w.heap.size _ I rfl ((HO.out.alloc _).below hb2) (ba (formT t)) rfl (by rw [ba_size]; omega) (by have := hb2.size; simp at this; omega) ?_; intro v3 w3 hown3 hb3; rw [ba_data, HJ.out] at hown3; obtain ⟨a3, cc3, rfl⟩ := ownB_form hown3; have HO3 := Lib.hid hown3; clear hown3)))
              go_ret2
              exact joinPost HR.out ((HB.out.alloc hszr _).trans ((hb2.mono (by simp; omega)).trans hb3))
          · have d4 : decide ((4096 : Int) < (t.text.size : Int)) = true := by simp; omega
            have HR := Lib.hid (joinR_long HA.out (by have := form_in HTK.out; have := form_ge HMY.out; omega))
            go_wp2_with fail
            go_ret2
            exact joinPost HR.out (HB.out.alloc hszr _)
        · have HJ : Hid (I ++ [32] ++ formT t = J) := Lib.hid (by rw [← hJ, ← hI, joinT_take htk (by omega)])
          have hj0 : 0 < j := by omega
          clear hI hJ htk h0
          by_cases h4 : t.text.size ≤ 4096
          · have HFT := Lib.hid (HF.out t (List.mem_of_getElem? HTK.out) h4)
            have hfl := hts.2 h4
            by_cases hJ4 : J.length ≤ 4096
            · have d4 : decide ((4096 : Int) < (J.length : Int)) = false := by simp; omega
              go_wp2_with (first | (at_builtin; (with_reducible show wpList _ _ _ (Oper.mk _ (Op.call ⟨_, _, #[88, 88]⟩) _ _ _ _ :: _) _ _); go_must (refine app_bytes2 rfl _ _ rfl w.heap.size _ I rfl ((HO.out.alloc _).alloc _) ⟨wr.heap.size + 1, 0, none⟩ 1 1 [32] rfl rfl (cells_new' (by simp) _ _ _ rfl) (by simp; omega) (by simp; omega) ?_; intro v1 w4 hown4 hg4 hb4; have hbx := tokBox_grown ((HO.out.alloc _).alloc _) ((Blk.new wr 105 #[.int .i64 t.kind, .string t.text, .int .i64 t.int, .int .i64 t.place]).alloc _) hg4; have x0 : w4.cell? ⟨wr.heap.size, 0, none⟩ = some (.int .i64 t.kind) := hbx.cell 0; have x1 : w4.cell? ⟨wr.heap.size, 1, none⟩ = some (.string t.text) := hbx.cell 1; have x2 : w4.cell? ⟨wr.heap.size, 2, none⟩ = some (.int .i64 t.int) := hbx.cell 2; have x3 : w4.cell? ⟨wr.heap.size, 3, none⟩ = some (.int .i64 t.place) := hbx.cell 3; have HB4 := Lib.hid (((HB.out.alloc hszr _).alloc (by simp; omega) _).trans hb4); have HO4 := Lib.hid hown4; clear hown4 hg4 hb4 hbx)) | (go_at_call 70; go_must (refine (HFT.out _ HB4.out).mono ?_; rintro e w2 ⟨rfl, hb2⟩)) | (at_builtin; go_must (refine app_str rfl _ _ rfl w.heap.size _ (I ++ [32]) rfl (HO4.out.below hb2) (ba (formT t)) rfl (by rw [ba_size]; simp; omega) (by have := hb2.size; have := HB4.out.size; omega) ?_; intro v3 w3 hown3 hb3; rw [ba_data, HJ.out] at hown3; obtain ⟨a3, cc3, rfl⟩ := ownB_form hown3; have HO3 := Lib.hid hown3; clear hown3)))
              exact ⟨⟨j + 1, by omega, by go_num, by rw [HJT.out]; exact HO3.out, by rw [HJT.out]; exact hJ4, (HB4.out.trans ((hb2.mono HB4.out.size).trans hb3))⟩, by simp [intOf]; omega⟩
            · have d4 : decide ((4096 : Int) < (J.length : Int)) = true := by simp; omega
              have HR := Lib.hid (joinR_long HA.out (by have := joinT_mono l (j + 1); rw [HJT.out] at this; omega))
              go_wp2_with (first | (at_builtin; (with_reducible show wpList _ _ _ (Oper.mk _ (Op.call ⟨_, _, #[88, 88]⟩) _ _ _ _ :: _) _ _); go_must (refine app_bytes2 rfl _ _ rfl w.heap.size _ I rfl ((HO.out.alloc _).alloc _) ⟨wr.heap.size + 1, 0, none⟩ 1 1 [32] rfl rfl (cells_new' (by simp) _ _ _ rfl) (by simp; omega) (by simp; omega) ?_; intro v1 w4 hown4 hg4 hb4; have hbx := tokBox_grown ((HO.out.alloc _).alloc _) ((Blk.new wr 105 #[.int .i64 t.kind, .string t.text, .int .i64 t.int, .int .i64 t.place]).alloc _) hg4; have x0 : w4.cell? ⟨wr.heap.size, 0, none⟩ = some (.int .i64 t.kind) := hbx.cell 0; have x1 : w4.cell? ⟨wr.heap.size, 1, none⟩ = some (.string t.text) := hbx.cell 1; have x2 : w4.cell? ⟨wr.heap.size, 2, none⟩ = some (.int .i64 t.int) := hbx.cell 2; have x3 : w4.cell? ⟨wr.heap.size, 3, none⟩ = some (.int .i64 t.place) := hbx.cell 3; have HB4 := Lib.hid (((HB.out.alloc hszr _).alloc (by simp; omega) _).trans hb4); have HO4 := Lib.hid hown4; clear hown4 hg4 hb4 hbx)) | (go_at_call 70; go_must (refine (HFT.out _ HB4.out).mono ?_; rintro e w2 ⟨rfl, hb2⟩)) | (at_builtin; go_must (refine app_str rfl _ _ rfl w.heap.size _ (I ++ [32]) rfl (HO4.out.below hb2) (ba (formT t)) rfl (by rw [ba_size]; simp; omega) (by have := hb2.size; have := HB4.out.size; omega) ?_; intro v3 w3 hown3 hb3; rw [ba_data, HJ.out] at hown3; obtain ⟨a3, cc3, rfl⟩ := ownB_form hown3; have HO3 := Lib.hid hown3; clear hown3)))
              go_ret2
              exact joinPost HR.out (HB4.out.trans ((hb2.mono HB4.out.size).trans hb3))
          · have d4 : decide ((4096 : Int) < (t.text.size : Int)) = true := by simp; omega
            have HR := Lib.hid (joinR_long HA.out (by have := form_in HTK.out; have := form_ge HMY.out; omega))
            go_wp2_with (first | (at_builtin; (with_reducible show wpList _ _ _ (Oper.mk _ (Op.call ⟨_, _, #[88, 88]⟩) _ _ _ _ :: _) _ _); go_must (refine app_bytes2 rfl _ _ rfl w.heap.size _ I rfl ((HO.out.alloc _).alloc _) ⟨wr.heap.size + 1, 0, none⟩ 1 1 [32] rfl rfl (cells_new' (by simp) _ _ _ rfl) (by simp; omega) (by simp; omega) ?_; intro v1 w4 hown4 hg4 hb4; have hbx := tokBox_grown ((HO.out.alloc _).alloc _) ((Blk.new wr 105 #[.int .i64 t.kind, .string t.text, .int .i64 t.int, .int .i64 t.place]).alloc _) hg4; have x0 : w4.cell? ⟨wr.heap.size, 0, none⟩ = some (.int .i64 t.kind) := hbx.cell 0; have x1 : w4.cell? ⟨wr.heap.size, 1, none⟩ = some (.string t.text) := hbx.cell 1; have x2 : w4.cell? ⟨wr.heap.size, 2, none⟩ = some (.int .i64 t.int) := hbx.cell 2; have x3 : w4.cell? ⟨wr.heap.size, 3, none⟩ = some (.int .i64 t.place) := hbx.cell 3; have HB4 := Lib.hid (((HB.out.alloc hszr _).alloc (by simp; omega) _).trans hb4); have HO4 := Lib.hid hown4; clear hown4 hg4 hb4 hbx)))
            go_ret2
            exact joinPost HR.out HB4.out
      · have HR := Lib.hid (joinR_fin HA.out hlen (by omega))
        have hcv := conv_own hown
        go_wp2_with fail
        go_ret2
        exact joinPost (by rw [HR.out]) hb
end Go.Proofs.YtjlpoigcalfdlaaDoor
namespace Go.Proofs.YtjlpoigcalfdlaaDoor
open Go Go.RowKit Go.Sort
set_option linter.unusedVariables false
def enC (x : EN × Sl) : List Value := [.int .i64 x.1.kind, .string x.1.text, .int .i64 x.1.int, .slice x.2.A x.2.n x.2.c]
structure EnIn (w : World) (lo hi : Nat) (x : EN × Sl) : Prop where
  kn : x.2.n = x.1.kids.length
  k : Row w lo hi 1 x.2.A x.2.n x.2.c (intCells x.1.kids)
theorem enK : Keep EnIn := ⟨fun h hb => ⟨h.kn, Row.below h.k hb⟩, fun h hl hh => ⟨h.kn, Row.mono h.k hl hh⟩⟩
/-- a node's text is no longer than any memory; its number fits -/
structure EnOk (n : EN) : Prop where
  t : n.text.size ≤ 140737488355328
  i0 : -9223372036854775808 ≤ n.int
  i1 : n.int ≤ 9223372036854775807
def nodesOf (l : List (EN × Sl)) : List EN := l.map (·.1)
theorem nodesOf_at {l : List (EN × Sl)} {i : Nat} {x : EN × Sl} (h : l[i]? = some x) : (nodesOf l)[i]? = some x.1 := by unfold nodesOf; rw [List.getElem?_map, h]; rfl
theorem nodesOf_len (l : List (EN × Sl)) : (nodesOf l).length = l.length := List.length_map _
theorem nodesOf_of {l : List (EN × Sl)} {i : Nat} {n : EN} (h : (nodesOf l)[i]? = some n) : ∃ x, l[i]? = some x ∧ x.1 = n := by
  unfold nodesOf at h
  rw [List.getElem?_map] at h
  obtain ⟨x, h1, h2⟩ := Option.map_eq_some_iff.1 h
  exact ⟨x, h1, h2⟩
/-- nodes in memory below hi -/
structure ExIn (w : World) (hi : Nat) (S : Sl) (l : List (EN × Sl)) : Prop where
  g : GRow enC EnIn 4 w 0 hi S l
  ok : ∀ x ∈ l, EnOk x.1
theorem ExIn.below {w w' : World} {hi : Nat} {S : Sl} {l : List (EN × Sl)} (h : ExIn w hi S l) (hb : Below hi w w') : ExIn w' hi S l := ⟨h.g.below enK hb, h.ok⟩
theorem ExIn.mono {w : World} {hi hi' : Nat} {S : Sl} {l : List (EN × Sl)} (h : ExIn w hi S l) (hh : hi ≤ hi') : ExIn w hi' S l := ⟨h.g.mono enK (Nat.le_refl _) hh, h.ok⟩
/-- the cells of a node -/
structure NodeC (w : World) (b o : Nat) (x : EN × Sl) : Prop where
  c0 : w.cell? ⟨b, o, none⟩ = some (.int .i64 x.1.kind)
  c1 : w.cell? ⟨b, o + 1, none⟩ = some (.string x.1.text)
  c2 : w.cell? ⟨b, o + 2, none⟩ = some (.int .i64 x.1.int)
  c3 : w.cell? ⟨b, o + 3, none⟩ = some (.slice x.2.A x.2.n x.2.c)
theorem NodeC.below {w w' : World} {b o hi : Nat} {x : EN × Sl} (h : NodeC w b o x) (hb : Below hi w w') (hlt : b < hi) : NodeC w' b o x :=
  ⟨(hb.cell (p := ⟨b, _, none⟩) hlt).trans h.c0, (hb.cell (p := ⟨b, _, none⟩) hlt).trans h.c1, (hb.cell (p := ⟨b, _, none⟩) hlt).trans h.c2, (hb.cell (p := ⟨b, _, none⟩) hlt).trans h.c3⟩
theorem ExIn.at_ {w : World} {hi : Nat} {S : Sl} {l : List (EN × Sl)} (h : ExIn w hi S l) {i : Nat} (hi' : i < S.n) : ∃ b o x, S.A = some ⟨b, o, none⟩ ∧ b < hi ∧ l[i]? = some x ∧ NodeC w b (o + i * 4) x ∧ EnIn w 0 hi x ∧ EnOk x.1 := by
  obtain ⟨b, o, hA, _, hb, V⟩ := h.g.at_ (fun _ => rfl) (by omega)
  have hl : i < l.length := by have := h.g.n; omega
  obtain ⟨h1, h2⟩ := V i l[i] (List.getElem?_eq_getElem hl)
  exact ⟨b, o, l[i], hA, hb, List.getElem?_eq_getElem hl, ⟨h2 0 _ (by omega) rfl, h2 1 _ (by omega) rfl, h2 2 _ (by omega) rfl, h2 3 _ (by omega) rfl⟩, h1, h.ok _ (List.getElem_mem hl)⟩
theorem ExIn.max {w : World} {hi : Nat} {S : Sl} {l : List (EN × Sl)} (h : ExIn w hi S l) : S.n ≤ maxLen := Nat.le_trans h.g.row.2.1 h.g.row.2.2.1
theorem EnIn.max {w : World} {lo hi : Nat} {x : EN × Sl} (h : EnIn w lo hi x) : x.2.n ≤ maxLen := Nat.le_trans h.k.2.1 h.k.2.2.1
/-- a kid's cell -/
theorem EnIn.at_ {w : World} {lo hi : Nat} {x : EN × Sl} (h : EnIn w lo hi x) {j : Nat} (hj : j < x.2.n) : ∃ b o k, x.2.A = some ⟨b, o, none⟩ ∧ b < hi ∧ x.1.kids[j]? = some k ∧ w.cell? ⟨b, o + j, none⟩ = some (.int .i64 k) := by
  obtain ⟨b, o, hA, _, hb, hc⟩ := h.k.at_ (by omega)
  have hl : j < x.1.kids.length := by have := h.kn; omega
  exact ⟨b, o, x.1.kids[j], hA, hb, List.getElem?_eq_getElem hl, hc j _ (intCells_get (List.getElem?_eq_getElem hl))⟩
structure SignD where
  text : List UInt8
  shape : Int
  level : Int
  kids : Int
  named : Bool
def signsL : List SignD := [⟨[], 0, 0, 0, false⟩, ⟨[], 0, 8, 0, false⟩, ⟨[], 0, 8, 0, false⟩, ⟨[116, 114, 117, 101], 1, 8, 0, false⟩, ⟨[102, 97, 108, 115, 101], 1, 8, 0, false⟩, ⟨[115, 101, 108, 102], 1, 8, 0, false⟩, ⟨[110, 111, 110, 101], 1, 8, 0, false⟩, ⟨[], 0, 8, 0, true⟩,
  ⟨[46], 5, 7, 1, true⟩, ⟨[35], 5, 7, 1, true⟩, ⟨[45, 62], 5, 7, 1, true⟩, ⟨[94], 5, 7, 1, false⟩, ⟨[63], 5, 7, 1, true⟩, ⟨[33, 33], 5, 7, 1, true⟩,
  ⟨[115, 105, 122, 101], 2, 8, 1, false⟩, ⟨[102, 105, 114, 115, 116], 2, 8, 1, false⟩, ⟨[116, 101, 120, 116], 2, 8, 1, false⟩, ⟨[99, 111, 110, 99, 101, 112, 116], 2, 8, 1, false⟩, ⟨[105, 100], 2, 8, 1, false⟩, ⟨[105, 110, 116], 2, 8, 1, false⟩, ⟨[43], 8, 5, 2, false⟩, ⟨[45], 8, 5, 2, false⟩, ⟨[42], 8, 6, 2, false⟩, ⟨[61, 61], 7, 4, 2, false⟩, ⟨[33, 61], 7, 4, 2, false⟩, ⟨[60], 7, 4, 2, false⟩, ⟨[60, 61], 7, 4, 2, false⟩, ⟨[97, 110, 100], 8, 2, 2, false⟩, ⟨[111, 114], 8, 1, 2, false⟩, ⟨[110, 111, 116], 6, 3, 1, false⟩, ⟨[105, 102], 3, 8, 3, false⟩, ⟨[97, 110, 121], 4, 8, 2, true⟩, ⟨[101, 118, 101, 114, 121], 4, 8, 2, true⟩, ⟨[111, 110, 108, 121], 4, 8, 2, true⟩, ⟨[115, 117, 109], 4, 8, 2, true⟩]
def signC (s : SignD) : List Value := [.string (ba s.text), .int .i64 s.shape, .int .i64 s.level, .int .i64 s.kids, .bool s.named]
def signsV : Array Value := (signsL.flatMap signC).toArray
/-- what package expr's variable holds, beside package lex's -/
structure ExprEnv (w : World) : Prop where
  lex : LexEnv w
  signs : ∃ t fr, w.heap[1]? = some (.cells signsV t fr)
theorem ExprEnv.below {w w' : World} (h : ExprEnv w) (hb : Below w.heap.size w w') : ExprEnv w' := by
  obtain ⟨h1, ⟨t, fr, h2⟩⟩ := h
  exact ⟨h1.below hb, t, fr, (hb.block _ (heap_lt h2)).trans h2⟩
theorem sign_cell {w : World} (h : ExprEnv w) {k : Nat} {s : SignD} (hk : signsL[k]? = some s) {j : Nat} {u : Value} (hj : j < 5) (hu : (signC s)[j]? = some u) : w.cell? ⟨1, k * 5 + j, none⟩ = some u := by
  obtain ⟨t, fr, hg⟩ := h.signs
  rw [cell_of_row w _ _ _ t fr hg]
  unfold signsV
  rw [List.getElem?_toArray, flatN_get (f := signC) (s := 5) (fun _ => rfl) signsL k s hk j hj]
  exact hu
theorem sign_kids : ∀ k : Nat, k < 35 → 0 < k → (signsL[k]?.map (·.kids)) = some (kidsV k) ∧ (signsL[k]?.map (·.named)) = some (namedB k) := by decide +kernel
theorem sign_at {k : Int} (h1 : 1 ≤ k) (h2 : k ≤ 34) : ∃ s, signsL[k.toNat]? = some s ∧ s.kids = kidsV k ∧ s.named = namedB k := by
  obtain ⟨n, rfl⟩ : ∃ n : Nat, k = n := ⟨k.toNat, by omega⟩
  have h := sign_kids n (by omega) (by omega)
  rw [Int.toNat_natCast]
  cases hs : signsL[n]? with
  | none => rw [hs] at h; simp at h
  | some s =>
    rw [hs] at h
    simp only [Option.map_some, Option.some.injEq] at h
    exact ⟨s, rfl, h.1, h.2⟩
end Go.Proofs.YtjlpoigcalfdlaaDoor
namespace Go.Proofs.YtjlpoigcalfdlaaDoor
open Go Go.RowKit
set_option linter.unusedVariables false
structure After (w w' : World) : Prop where
  below : Below w.heap.size w w'
theorem After.refl (w : World) : After w w := ⟨Below.refl _ _⟩
theorem After.next {w w1 w2 : World} (h : After w w1) (hb : Below w1.heap.size w1 w2) : After w w2 := ⟨h.below.trans (hb.mono h.below.size)⟩
def JoinIs (w : World) (t : ByteArray) (c : Int) (e : Ending) (w' : World) : Prop := e = .returned (.tuple #[.string t, .int .i64 c]) ∧ Below w.heap.size w w'
theorem join_new {w : World} {l : List Tok} {cs : Array Value} {t : List UInt8} {c : Int} (n : Nat) (hn : l.length = n) (hc : cs.toList = toksCells l) (hl : l.length ≤ 100) (ht : ∀ k ∈ l, TokOk k) (hL : LexEnv w) (h : joinR l = (t, c)) :
    Calls Tryd.prog 58 #[.slice (some ⟨w.heap.size, 0, none⟩) n n] (w.alloc (.cells cs 105)) (JoinIs (w.alloc (.cells cs 105)) (ba t) c) := by
  subst hn
  have hr : TokIn (w.alloc (.cells cs 105)) (w.heap.size + 1) (some ⟨w.heap.size, 0, none⟩) l.length l.length l := by
    have hs : cs.size = l.length * 4 := by rw [← Array.length_toList, hc, toksCells_len]
    have := row_blk (size := 4) (Blk.new w 105 cs) hs (Nat.le_refl l.length) (by unfold maxLen; omega)
    rw [hc] at this
    exact this.mono (Nat.zero_le _) (Nat.le_refl _)
  have := join_any _ _ _ _ _ l hr (by simp) ht (hL.below ((Below.refl _ _).alloc (Nat.le_refl _) _))
  rw [h] at this
  exact this
end Go.Proofs.YtjlpoigcalfdlaaDoor

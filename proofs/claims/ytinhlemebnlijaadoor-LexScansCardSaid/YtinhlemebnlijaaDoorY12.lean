/-
  WALKS over package lex: Join.
-/
import Derived.Test.YtinhlemebnlijaaDoorY11
import Derived.Lib.ItoaLen
namespace Go.Proofs.YtinhlemebnlijaaDoor
open Go Go.RowKit
set_option linter.unusedVariables false
def tailT (l : List Tok) : List UInt8 := l.flatMap (fun k => 32 :: formT k)
def joinT : List Tok → List UInt8
  | [] => []
  | k :: l => formT k ++ tailT l
def joinR (l : List Tok) : List UInt8 × Int := if l.all may = false then ([], 2) else if 4096 < (joinT l).length then ([], 3) else (joinT l, 0)
theorem joinT_snoc (l : List Tok) (k : Tok) (h : l ≠ []) : joinT (l ++ [k]) = joinT l ++ [32] ++ formT k := by
  cases l with
  | nil => exact absurd rfl h
  | cons a l => simp [joinT, tailT, List.flatMap_append]
theorem joinT_take0 {l : List Tok} {k : Tok} (h : l[0]? = some k) : joinT (l.take (0 + 1)) = formT k := by
  rw [List.take_add_one, h]; simp [joinT, tailT]
theorem joinT_take {l : List Tok} {k : Tok} {j : Nat} (h : l[j]? = some k) (hj : 0 < j) : joinT (l.take (j + 1)) = joinT (l.take j) ++ [32] ++ formT k := by
  rw [List.take_add_one, h]
  refine joinT_snoc _ _ ?_
  intro e
  have := congrArg List.length e
  rw [List.length_take, List.length_nil] at this
  have := (List.getElem?_eq_some_iff.1 h).1
  omega
theorem joinT_len_append (a b : List Tok) : (joinT a).length ≤ (joinT (a ++ b)).length := by
  cases a with
  | nil => simp [joinT]
  | cons k a => simp [joinT, tailT, List.flatMap_append]
theorem joinT_mono (l : List Tok) (j : Nat) : (joinT (l.take j)).length ≤ (joinT l).length := by
  have := joinT_len_append (l.take j) (l.drop j)
  rwa [List.take_append_drop] at this
theorem form_ge {k : Tok} (h : may k = true) : k.text.size ≤ (formT k).length := by
  unfold formT
  by_cases h1 : k.kind = 1
  · unfold may at h
    rw [if_pos h1, Bool.and_eq_true] at h
    have : k.text.data.toList = [] := by simpa using h.2
    have e := toList_eq k.text
    rw [this] at e
    simp at e; omega
  · rw [if_neg h1]
    by_cases h2 : k.kind = 2
    · rw [if_pos h2]
      have := flat_ge k.text.data.toList
      rw [toList_eq] at this
      have : (quote k.text.data.toList).length = (k.text.data.toList.flatMap form).length + 2 := by unfold quote; rw [List.length_append, List.length_cons]; rfl
      omega
    · rw [if_neg h2, toList_eq]; exact Nat.le_refl _
theorem form_in {l : List Tok} {k : Tok} {j : Nat} (h : l[j]? = some k) : (formT k).length ≤ (joinT l).length := by
  refine Nat.le_trans ?_ (joinT_mono l (j + 1))
  by_cases hj : j = 0
  · subst hj; rw [joinT_take0 h]; exact Nat.le_refl _
  · rw [joinT_take h (by omega), List.length_append]; omega
theorem joinR_long {l : List Tok} (ha : l.all may = true) (h : 4096 < (joinT l).length) : joinR l = ([], 3) := by unfold joinR; rw [if_neg (by rw [ha]; simp), if_pos h]
theorem joinR_fin {l : List Tok} {j : Nat} (ha : l.all may = true) (h : (joinT (l.take j)).length ≤ 4096) (hj : l.length ≤ j) : joinR l = (joinT (l.take j), 0) := by
  rw [List.take_of_length_le hj] at h ⊢
  unfold joinR; rw [if_neg (by rw [ha]; simp), if_neg (by omega)]
theorem form_le {k : Tok} (hk : TokOk k) (h : k.text.size ≤ 4096) : (formT k).length ≤ 20000 := by
  unfold formT
  split
  · have := Lib.itoa_length_le k.int hk.i0 hk.i1; omega
  · split
    · have := flat_length k.text.data.toList
      rw [toList_eq] at this
      have : (quote k.text.data.toList).length = (k.text.data.toList.flatMap form).length + 2 := by unfold quote; rw [List.length_append, List.length_cons]; rfl
      omega
    · rw [toList_eq]; omega
def JoinPost (w : World) (r : List UInt8 × Int) (e : Ending) (w' : World) : Prop := e = .returned (.tuple #[.string (ba r.1), .int .i64 r.2]) ∧ Below w.heap.size w w'
theorem joinPost {w w' : World} {r : List UInt8 × Int} {t : ByteArray} {c : Int} (h : r = (t.data.toList, c)) (hb : Below w.heap.size w w') : JoinPost w r (.returned (.tuple #[.string t, .int .i64 c])) w' := by
  rw [h]; exact ⟨by rw [ba_list'], hb⟩
theorem app_bytes2 {w : World} {ops : Array Oper} {rest : List Oper} {o : Oper} {a : Act} {Q : Exit → Act → World → Prop} (hgd : o.guard = none) (s x : Operand)
    (ho : o.op = .call { callee := .builtin .append, args := #[s, x], argTypes := #[42, 42] })
    (B : Nat) (v : Value) (l : List UInt8) (hs : a.eval s = v) (hown : ownB w B v l) (ad : Addr) (m c : Nat) (news : List UInt8) (hx : a.eval x = .slice (some ad) m c) (hl : news.length = m)
    (hnews : ∀ j u, (news.map enc)[j]? = some u → w.cell? (ad.add j) = some u) (hroom : l.length + m ≤ 140737488355328) (hB : B ≤ w.heap.size)
    (h : ∀ v' w', ownB w' B v' (l ++ news) → w.grownBy w' v.ownBlock → Below B w w' → wpList Tryd.prog ops Q rest (a.put o.dst v') w') : wpList Tryd.prog ops Q (o :: rest) a w := by
  obtain ⟨i0, hi, hz0, hz1, hz2⟩ := info_parts byteInfo
  refine wpList_append_own w hgd s x _ ho B 5 i0 (.int .u8 0) 1 1 Tryd.underlying42 hi hz0 hz1 hz2 rfl (by decide) v l.length (l.map enc) hs hown ad m c (news.map enc) hx (by simp [hl]) hnews (enc_one _) (by unfold maxLen; omega) (by omega) hB ?_
  intro v' w' hown' hg _
  refine h v' w' ?_ hg (ownB.grown hown hB hg)
  unfold ownB
  rw [List.length_append, List.map_append, hl]
  exact hown'
theorem cells_new' {w : World} {g : Nat} (hg : g = w.heap.size) (news : List UInt8) (cs : Array Value) (T : TypeId) (hc : cs.toList = news.map enc) : ∀ j u, (news.map enc)[j]? = some u → (w.alloc (.cells cs T)).cell? ((⟨g, 0, none⟩ : Addr).add j) = some u := by
  subst hg; exact cells_new w news cs T hc
theorem tokBox_grown {Y Y' : World} {B : Nat} {v : Value} {I : List UInt8} {g : Nat} {cs : Array Value} (hO : ownB Y B v I) (hb : Blk Y g 30 cs) (hg : Y.grownBy Y' v.ownBlock) : Blk Y' g 30 cs :=
  hb.grown hg (Ne.symm (own_blk_ne hO hb (by decide)))
theorem ba_size (l : List UInt8) : (ba l).size = l.length := by rw [← toList_eq, ba_data]
theorem ownB_form {w : World} {B : Nat} {v : Value} {l : List UInt8} (h : ownB w B v l) : ∃ A c, v = .slice A l.length c := own_form h
set_option maxHeartbeats 3200000 in
theorem join_any (w : World) (hi : Nat) (A : Option Addr) (n c : Nat) (l : List Tok) (h : TokIn w hi A n c l) (hh : hi ≤ w.heap.size) (ht : ∀ k ∈ l, TokOk k) (hL : LexEnv w) :
    Calls Tryd.prog 12 #[.slice A n c] w (JoinPost w (joinR l)) := by
  have HC : Hid (Calls Tryd.prog 23 #[.slice A n c, .func (.func 24) #[] #[]] w (Tells1 w (!l.all may))) := Lib.hid (containsFunc_any w hi A n c l h hh ht hL)
  have hl := h.len
  have hn := h.max
  have HI : Hid (∀ Y, Below w.heap.size w Y → TokIn Y hi A n c l) := Lib.hid fun Y hb => h.below (hb.mono hh)
  have HF : Hid (∀ k ∈ l, k.text.size ≤ 4096 → ∀ Y, Below w.heap.size w Y → Calls Tryd.prog 26 #[.agg #[.int .i64 k.kind, .string k.text, .int .i64 k.int, .int .i64 k.place]] Y (SaidText Y (ba (formT k)))) := Lib.hid fun k hk h4 Y hb => form_any k Y (ht k hk) (fun _ => h4) (hL.below hb)
  have HTS : Hid (∀ k ∈ l, k.text.size ≤ 140737488355328 ∧ (k.text.size ≤ 4096 → (formT k).length ≤ 20000)) := Lib.hid fun k hk => ⟨(ht k hk).t, form_le (ht k hk)⟩
  unfold maxLen at hn
  clear h ht hL
  cases ha : l.all may with
  | false =>
    rw [ha] at HC
    have HR := Lib.hid (show joinR l = (([] : List UInt8), (2 : Int)) from by unfold joinR; rw [if_pos ha])
    clear ha
    go_enter Tryd.func12, Tryd.ntmps12
    go_wp2_with (go_at_call 23; refine HC.out.mono ?_; rintro e w1 ⟨rfl, hb1⟩)
    go_ret2
    exact joinPost HR.out hb1
  | true =>
    rw [ha] at HC
    have HA : Hid (l.all may = true) := Lib.hid ha
    clear ha
    go_enter Tryd.func12, Tryd.ntmps12
    go_wp2_with (go_at_call 23; refine HC.out.mono ?_; rintro e w1 ⟨rfl, hb1⟩)
    go_loopw [4, 5, 6, 11] (fun v _ _ i wr => ∃ j : Nat, j ≤ n ∧ i = .int .i64 j ∧ ownB wr w.heap.size v (joinT (l.take j)) ∧ (joinT (l.take j)).length ≤ 4096 ∧ Below w.heap.size w wr) (fun _ _ _ i _ => n - (intOf i).toNat)
    case atStart => exact ⟨0, by omega, rfl, by simpa [joinT] using ownB.nil _ _, by simp [joinT], hb1⟩
    case round =>
      obtain ⟨j, hj, rfl, hown, hlen, hb⟩ := hrel
      have hszr : w.heap.size ≤ wr.heap.size := hb.size
      by_cases hlt : j < n
      · obtain ⟨b, o, t, rfl, hbl, htk, hc⟩ := (HI.out wr hb).at_ hlt
        have c0 := hc.c0
        have c1 := hc.c1
        have c2 := hc.c2
        have c3 := hc.c3
        have HB := Lib.hid hb
        have HTK := Lib.hid htk
        have HMY : Hid (may t = true) := Lib.hid (List.all_eq_true.1 HA.out t (List.mem_of_getElem? htk))
        have hts := HTS.out t (List.mem_of_getElem? htk)
        obtain ⟨J, hJ⟩ : ∃ J, joinT (l.take (j + 1)) = J := ⟨_, rfl⟩
        obtain ⟨I, hI⟩ : ∃ I, joinT (l.take j) = I := ⟨_, rfl⟩
        rw [hI] at hown hlen
        have HJT := Lib.hid hJ
        obtain ⟨av, cv, rfl⟩ := ownB_form hown
        have HO := Lib.hid hown
        clear hc hb hown
        by_cases h0 : j = 0
        · have HJ : Hid (I ++ formT t = J) := Lib.hid (by subst h0; rw [← hJ, ← hI, joinT_take0 htk]; rfl)
          have hj0 : ¬ 0 < j := by omega
          clear hI hJ htk h0
          by_cases h4 : t.text.size ≤ 4096
          · have HFT := Lib.hid (HF.out t (List.mem_of_getElem? HTK.out) h4)
            have hfl := hts.2 h4
            by_cases hJ4 : J.length ≤ 4096
            · have d4 : decide ((4096 : Int) < (J.length : Int)) = false := by simp; omega
              go_wp2_with (first | (go_at_call 26; go_must (refine (HFT.out _ (HB.out.alloc hszr _)).mono ?_; rintro e w2 ⟨rfl, hb2⟩)) | (at_builtin; go_must (refine app_str rfl _ _ rfl w.heap.size _ I rfl ((HO.out.alloc _).below hb2) (ba (formT t)) rfl (by rw [ba_size]; omega) (by have := hb2.size; simp at this; omega) ?_; intro v3 w3 hown3 hb3; rw [ba_data, HJ.out] at hown3; obtain ⟨a3, cc3, rfl⟩ := ownB_form hown3; have HO3 := Lib.hid hown3; clear hown3)))
              exact ⟨⟨j + 1, by omega, by go_num, by rw [HJT.out]; exact HO3.out, by rw [HJT.out]; exact hJ4, ((HB.out.alloc hszr _).trans ((hb2.mono (by simp; omega)).trans hb3))⟩, by simp [intOf]; omega⟩
            · have d4 : decide ((4096 : Int) < (J.length : Int)) = true := by simp; omega
              have HR := Lib.hid (joinR_long HA.out (by have := joinT_mono l (j + 1); rw [HJT.out] at this; omega))
              go_wp2_with (first | (go_at_call 26; go_must (refine (HFT.out _ (HB.out.alloc hszr _)).mono ?_; rintro e w2 ⟨rfl, hb2⟩)) | (at_builtin; go_must (refine app_str rfl _ _ rfl w.heap.size _ I rfl ((HO.out.alloc _).below hb2) (ba (formT t)) rfl (by rw [ba_size]; omega) (by have := hb2.size; simp at this; omega) ?_; intro v3 w3 hown3 hb3; rw [ba_data, HJ.out] at hown3; obtain ⟨a3, cc3, rfl⟩ := ownB_form hown3; have HO3 := Lib.hid hown3; clear hown3)))
              go_ret2
              exact joinPost HR.out ((HB.out.alloc hszr _).trans ((hb2.mono (by simp; omega)).trans hb3))
          · have d4 : decide ((4096 : Int) < (t.text.size : Int)) = true := by simp; omega
            have HR := Lib.hid (joinR_long HA.out (by have := form_in HTK.out; have := form_ge HMY.out; omega))
            go_wp2_with fail
            go_ret2
            exact joinPost HR.out (HB.out.alloc hszr _)
        · have HJ : Hid (I ++ [32] ++ formT t = J) := Lib.hid (by rw [← hJ, ← hI, joinT_take htk (by omega)])
          have hj0 : 0 < j := by omega
          clear hI hJ htk h0
          by_cases h4 : t.text.size ≤ 4096
          · have HFT := Lib.hid (HF.out t (List.mem_of_getElem? HTK.out) h4)
            have hfl := hts.2 h4
            by_cases hJ4 : J.length ≤ 4096
            · have d4 : decide ((4096 : Int) < (J.length : Int)) = false := by simp; omega
              go_wp2_with (first | (at_builtin; (with_reducible show wpList _ _ _ (Oper.mk _ (Op.call ⟨_, _, #[42, 42]⟩) _ _ _ _ :: _) _ _); go_must (refine app_bytes2 rfl _ _ rfl w.heap.size _ I rfl ((HO.out.alloc _).alloc _) ⟨wr.heap.size + 1, 0, none⟩ 1 1 [32] rfl rfl (cells_new' (by simp) _ _ _ rfl) (by simp; omega) (by simp; omega) ?_; intro v1 w4 hown4 hg4 hb4; have hbx := tokBox_grown ((HO.out.alloc _).alloc _) ((Blk.new wr 30 #[.int .i64 t.kind, .string t.text, .int .i64 t.int, .int .i64 t.place]).alloc _) hg4; have x0 : w4.cell? ⟨wr.heap.size, 0, none⟩ = some (.int .i64 t.kind) := hbx.cell 0; have x1 : w4.cell? ⟨wr.heap.size, 1, none⟩ = some (.string t.text) := hbx.cell 1; have x2 : w4.cell? ⟨wr.heap.size, 2, none⟩ = some (.int .i64 t.int) := hbx.cell 2; have x3 : w4.cell? ⟨wr.heap.size, 3, none⟩ = some (.int .i64 t.place) := hbx.cell 3; have HB4 := Lib.hid (((HB.out.alloc hszr _).alloc (by simp; omega) _).trans hb4); have HO4 := Lib.hid hown4; clear hown4 hg4 hb4 hbx)) | (go_at_call 26; go_must (refine (HFT.out _ HB4.out).mono ?_; rintro e w2 ⟨rfl, hb2⟩)) | (at_builtin; go_must (refine app_str rfl _ _ rfl w.heap.size _ (I ++ [32]) rfl (HO4.out.below hb2) (ba (formT t)) rfl (by rw [ba_size]; simp; omega) (by have := hb2.size; have := HB4.out.size; omega) ?_; intro v3 w3 hown3 hb3; rw [ba_data, HJ.out] at hown3; obtain ⟨a3, cc3, rfl⟩ := ownB_form hown3; have HO3 := Lib.hid hown3; clear hown3)))
              exact ⟨⟨j + 1, by omega, by go_num, by rw [HJT.out]; exact HO3.out, by rw [HJT.out]; exact hJ4, (HB4.out.trans ((hb2.mono HB4.out.size).trans hb3))⟩, by simp [intOf]; omega⟩
            · have d4 : decide ((4096 : Int) < (J.length : Int)) = true := by simp; omega
              have HR := Lib.hid (joinR_long HA.out (by have := joinT_mono l (j + 1); rw [HJT.out] at this; omega))
              go_wp2_with (first | (at_builtin; (with_reducible show wpList _ _ _ (Oper.mk _ (Op.call ⟨_, _, #[42, 42]⟩) _ _ _ _ :: _) _ _); go_must (refine app_bytes2 rfl _ _ rfl w.heap.size _ I rfl ((HO.out.alloc _).alloc _) ⟨wr.heap.size + 1, 0, none⟩ 1 1 [32] rfl rfl (cells_new' (by simp) _ _ _ rfl) (by simp; omega) (by simp; omega) ?_; intro v1 w4 hown4 hg4 hb4; have hbx := tokBox_grown ((HO.out.alloc _).alloc _) ((Blk.new wr 30 #[.int .i64 t.kind, .string t.text, .int .i64 t.int, .int .i64 t.place]).alloc _) hg4; have x0 : w4.cell? ⟨wr.heap.size, 0, none⟩ = some (.int .i64 t.kind) := hbx.cell 0; have x1 : w4.cell? ⟨wr.heap.size, 1, none⟩ = some (.string t.text) := hbx.cell 1; have x2 : w4.cell? ⟨wr.heap.size, 2, none⟩ = some (.int .i64 t.int) := hbx.cell 2; have x3 : w4.cell? ⟨wr.heap.size, 3, none⟩ = some (.int .i64 t.place) := hbx.cell 3; have HB4 := Lib.hid (((HB.out.alloc hszr _).alloc (by simp; omega) _).trans hb4); have HO4 := Lib.hid hown4; clear hown4 hg4 hb4 hbx)) | (go_at_call 26; go_must (refine (HFT.out _ HB4.out).mono ?_; rintro e w2 ⟨rfl, hb2⟩)) | (at_builtin; go_must (refine app_str rfl _ _ rfl w.heap.size _ (I ++ [32]) rfl (HO4.out.below hb2) (ba (formT t)) rfl (by rw [ba_size]; simp; omega) (by have := hb2.size; have := HB4.out.size; omega) ?_; intro v3 w3 hown3 hb3; rw [ba_data, HJ.out] at hown3; obtain ⟨a3, cc3, rfl⟩ := ownB_form hown3; have HO3 := Lib.hid hown3; clear hown3)))
              go_ret2
              exact joinPost HR.out (HB4.out.trans ((hb2.mono HB4.out.size).trans hb3))
          · have d4 : decide ((4096 : Int) < (t.text.size : Int)) = true := by simp; omega
            have HR := Lib.hid (joinR_long HA.out (by have := form_in HTK.out; have := form_ge HMY.out; omega))
            go_wp2_with (first | (at_builtin; (with_reducible show wpList _ _ _ (Oper.mk _ (Op.call ⟨_, _, #[42, 42]⟩) _ _ _ _ :: _) _ _); go_must (refine app_bytes2 rfl _ _ rfl w.heap.size _ I rfl ((HO.out.alloc _).alloc _) ⟨wr.heap.size + 1, 0, none⟩ 1 1 [32] rfl rfl (cells_new' (by simp) _ _ _ rfl) (by simp; omega) (by simp; omega) ?_; intro v1 w4 hown4 hg4 hb4; have hbx := tokBox_grown ((HO.out.alloc _).alloc _) ((Blk.new wr 30 #[.int .i64 t.kind, .string t.text, .int .i64 t.int, .int .i64 t.place]).alloc _) hg4; have x0 : w4.cell? ⟨wr.heap.size, 0, none⟩ = some (.int .i64 t.kind) := hbx.cell 0; have x1 : w4.cell? ⟨wr.heap.size, 1, none⟩ = some (.string t.text) := hbx.cell 1; have x2 : w4.cell? ⟨wr.heap.size, 2, none⟩ = some (.int .i64 t.int) := hbx.cell 2; have x3 : w4.cell? ⟨wr.heap.size, 3, none⟩ = some (.int .i64 t.place) := hbx.cell 3; have HB4 := Lib.hid (((HB.out.alloc hszr _).alloc (by simp; omega) _).trans hb4); have HO4 := Lib.hid hown4; clear hown4 hg4 hb4 hbx)))
            go_ret2
            exact joinPost HR.out HB4.out
      · have HR := Lib.hid (joinR_fin HA.out hlen (by omega))
        have hcv := conv_own hown
        go_wp2_with fail
        go_ret2
        exact joinPost (by rw [HR.out]) hb
end Go.Proofs.YtinhlemebnlijaaDoor

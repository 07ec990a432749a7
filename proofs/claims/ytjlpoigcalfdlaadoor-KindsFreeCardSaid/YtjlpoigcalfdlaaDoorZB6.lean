/-
  WALKS over package lex: a token's form; which token of a list may not be.
  TOKENS AS AN ARGUMENT: what the reading of them tells of the cells, and how long their texts are.
-/
import Derived.Test.YtjlpoigcalfdlaaDoorZB5
import Derived.Deep.Slices
import Derived.Deep.SlicePairs
import Derived.Deep.Fields
import Derived.ChangeSame
import Derived.ChangeSlices
namespace Go.Proofs.YtjlpoigcalfdlaaDoor
open Go Go.RowKit
set_option linter.unusedVariables false
/-- the slice value '.slice A n c' holds these tokens, in a block below hi -/
def TokIn (w : World) (hi : Nat) (A : Option Addr) (n c : Nat) (l : List Tok) : Prop := Row w 0 hi 4 A n c (toksCells l)
structure CellsAt (w : World) (b o : Nat) (k : Tok) : Prop where
  c0 : w.cell? ⟨b, o, none⟩ = some (.int .i64 k.kind)
  c1 : w.cell? ⟨b, o + 1, none⟩ = some (.string k.text)
  c2 : w.cell? ⟨b, o + 2, none⟩ = some (.int .i64 k.int)
  c3 : w.cell? ⟨b, o + 3, none⟩ = some (.int .i64 k.place)
section
variable {w w' : World} {hi n c : Nat} {A : Option Addr} {l : List Tok}
theorem TokIn.len (h : TokIn w hi A n c l) : l.length = n := by have := h.1; rw [toksCells_len] at this; omega
theorem TokIn.below (h : TokIn w hi A n c l) (hb : Below hi w w') : TokIn w' hi A n c l := Row.below h hb
theorem TokIn.max (h : TokIn w hi A n c l) : n ≤ maxLen := Nat.le_trans h.2.1 h.2.2.1
theorem TokIn.at_ (h : TokIn w hi A n c l) {i : Nat} (hi' : i < n) : ∃ b o k, A = some ⟨b, o, none⟩ ∧ b < hi ∧ l[i]? = some k ∧ CellsAt w b (o + i * 4) k := by
  have hl := h.len
  obtain ⟨b, o, e, _, hlt, hc⟩ := Row.at_ h (by omega)
  have hk : l[i]? = some (l[i]'(by omega)) := List.getElem?_eq_getElem _
  have key : ∀ j u, j < 4 → (tokCells (l[i]'(by omega)))[j]? = some u → w.cell? ⟨b, o + i * 4 + j, none⟩ = some u := by
    intro j u hj hu
    have := hc (i * 4 + j) u (by unfold toksCells; rw [flatN_get tokCells_len l i _ hk j hj]; exact hu)
    rwa [← Nat.add_assoc] at this
  exact ⟨b, o, _, e, hlt, hk, key 0 _ (by omega) rfl, key 1 _ (by omega) rfl, key 2 _ (by omega) rfl, key 3 _ (by omega) rfl⟩
end
theorem CellsAt.below {w w' : World} {b o hi : Nat} {k : Tok} (h : CellsAt w b o k) (hb : Below hi w w') (hlt : b < hi) : CellsAt w' b o k :=
  ⟨(hb.cell (p := ⟨b, _, none⟩) hlt).trans h.c0, (hb.cell (p := ⟨b, _, none⟩) hlt).trans h.c1, (hb.cell (p := ⟨b, _, none⟩) hlt).trans h.c2, (hb.cell (p := ⟨b, _, none⟩) hlt).trans h.c3⟩
def formT (k : Tok) : List UInt8 := if k.kind = 1 then Lib.itoa k.int else if k.kind = 2 then quote k.text.data.toList else k.text.data.toList
/-- a token's number fits, and its text is no longer than any memory -/
structure TokOk (k : Tok) : Prop where
  i0 : -9223372036854775808 ≤ k.int
  i1 : k.int ≤ 9223372036854775807
  t : k.text.size ≤ 140737488355328
set_option maxHeartbeats 400000 in
theorem show_tab (n : Int) (w : World) (h0 : -9223372036854775808 ≤ n) (h1 : n ≤ 9223372036854775807) (hE : LexEnv w) : Calls Tryd.prog 76 #[.int .i64 n] w (Tells w (Lib.itoa n)) := by
  have H : Hid (Calls Tryd.prog 81 #[.int .i64 n, .int .i64 10] w (Tells w (Lib.itoa n))) :=
    (Tryd.strconv_FormatInt_10 n h0 h1 w hE.tab).mono fun e w' ⟨he, k, os, hw⟩ => ⟨he, by rw [hw]; exact below_grown_sl _ _ _ _ (Nat.le_refl _)⟩
  clear h0 h1 hE
  go_enter Tryd.func76, Tryd.ntmps76
  go_wp2_with (go_at_call 81; refine H.out.mono ?_; rintro e w' ⟨rfl, hb⟩)
  go_ret
  exact ⟨rfl, hb⟩
def SaidText (w : World) (t : ByteArray) (e : Ending) (w' : World) : Prop := e = .returned (.string t) ∧ Below w.heap.size w w'
theorem saidText {w w' : World} {t u : ByteArray} (h : t = u) (hb : Below w.heap.size w w') : SaidText w u (.returned (.string t)) w' := ⟨by rw [h], hb⟩
set_option maxHeartbeats 1600000 in
theorem form_any (k : Tok) (w : World) (hk : TokOk k) (ht : k.kind = 2 → k.text.size ≤ 4096) (hL : LexEnv w) : Calls Tryd.prog 70 #[tokV k] w (SaidText w (ba (formT k))) := by
  obtain ⟨kd, T, n, pl⟩ := k
  unfold tokV
  simp only at ht ⊢
  have hk0 := hk.i0
  have hk1 := hk.i1
  simp only at hk0 hk1
  have HS : Hid (∀ Y, Below w.heap.size w Y → Calls Tryd.prog 76 #[.int .i64 n] Y (SaidText Y (ba (Lib.itoa n)))) := Lib.hid fun Y h => show_tab n Y hk0 hk1 (hL.below h)
  have HQ : Hid (kd = 2 → ∀ Y, Calls Tryd.prog 77 #[.string T] Y (SaidText Y (ba (quote T.data.toList)))) := Lib.hid fun h Y => by
    have h4 := ht h
    refine quote_any T Y ?_
    have hf := flat_length T.data.toList
    rw [toList_eq] at hf
    have : (quote T.data.toList).length = (T.data.toList.flatMap form).length + 2 := by unfold quote; rw [List.length_append, List.length_cons]; rfl
    omega
  obtain ⟨X, hX⟩ : ∃ X, w.alloc (.cells #[.int .i64 kd, .string T, .int .i64 n, .int .i64 pl] 105) = X := ⟨_, rfl⟩
  have HX : Hid (Below w.heap.size w X) := Lib.hid (by rw [← hX]; exact (Below.refl _ _).alloc (Nat.le_refl _) _)
  have k0 : X.cell? ⟨w.heap.size, 0, none⟩ = some (.int .i64 kd) := by rw [← hX]; exact (Blk.new w _ _).cell 0
  have k1 : X.cell? ⟨w.heap.size, 1, none⟩ = some (.string T) := by rw [← hX]; exact (Blk.new w _ _).cell 1
  have k2 : X.cell? ⟨w.heap.size, 2, none⟩ = some (.int .i64 n) := by rw [← hX]; exact (Blk.new w _ _).cell 2
  clear hk hL ht hk0 hk1
  by_cases h1 : kd = 1
  · subst h1
    have hf : formT ⟨1, T, n, pl⟩ = Lib.itoa n := rfl
    rw [hf]
    clear hf HQ
    go_enter Tryd.func70, Tryd.ntmps70
    go_wp2_with (go_at_call 76; refine (HS.out _ HX.out).mono ?_; rintro e w2 ⟨rfl, hb2⟩)
    go_ret
    exact saidText rfl (HX.out.trans (hb2.mono HX.out.size))
  · by_cases h2 : kd = 2
    · subst h2
      have hf : formT ⟨2, T, n, pl⟩ = quote T.data.toList := rfl
      rw [hf]
      clear hf h1
      go_enter Tryd.func70, Tryd.ntmps70
      go_wp2_with (go_at_call 77; refine (HQ.out rfl _).mono ?_; rintro e w2 ⟨rfl, hb2⟩)
      go_ret
      exact saidText rfl (HX.out.trans (hb2.mono HX.out.size))
    · have hf : formT ⟨kd, T, n, pl⟩ = T.data.toList := by unfold formT; rw [if_neg h1, if_neg h2]
      have g1 : (kd == 1) = false := by rw [beq_eq_false_iff_ne]; exact h1
      have g2 : (kd == 2) = false := by rw [beq_eq_false_iff_ne]; exact h2
      rw [hf, ba_list']
      clear hf h1 h2
      go_enter Tryd.func70, Tryd.ntmps70
      go_wp2_with fail
      go_ret
      exact saidText rfl HX.out
set_option maxHeartbeats 800000 in
theorem joinF_any (k : Tok) (w : World) (hs : k.text.size ≤ maxLen) (hL : LexEnv w) : Calls Tryd.prog 68 #[tokV k] w (Tells1 w (!may k)) := by
  have HM : Hid (∀ Y, Below w.heap.size w Y → Calls Tryd.prog 69 #[.agg #[.int .i64 k.kind, .string k.text, .int .i64 k.int, .int .i64 k.place]] Y (Tells1 Y (may k))) := Lib.hid fun Y h => mayBe_any k Y hs (hL.below h)
  clear hL hs
  obtain ⟨X, hX⟩ : ∃ X, w.alloc (.cells #[.int .i64 k.kind, .string k.text, .int .i64 k.int, .int .i64 k.place] 105) = X := ⟨_, rfl⟩
  have HX : Hid (Below w.heap.size w X) := Lib.hid (by rw [← hX]; exact (Below.refl _ _).alloc (Nat.le_refl _) _)
  have k0 : X.cell? ⟨w.heap.size, 0, none⟩ = some (.int .i64 k.kind) := by rw [← hX]; exact (Blk.new w _ _).cell 0
  have k1 : X.cell? ⟨w.heap.size, 1, none⟩ = some (.string k.text) := by rw [← hX]; exact (Blk.new w _ _).cell 1
  have k2 : X.cell? ⟨w.heap.size, 2, none⟩ = some (.int .i64 k.int) := by rw [← hX]; exact (Blk.new w _ _).cell 2
  have k3 : X.cell? ⟨w.heap.size, 3, none⟩ = some (.int .i64 k.place) := by rw [← hX]; exact (Blk.new w _ _).cell 3
  unfold tokV
  generalize may k = b at *
  go_enter Tryd.func68, Tryd.ntmps68
  go_wp2_with (go_at_call 69; refine (HM.out _ HX.out).mono ?_; rintro e w2 ⟨rfl, hb2⟩)
  go_ret
  exact tells1 rfl (HX.out.trans (hb2.mono HX.out.size))
def SaysIx (w : World) (b : Bool) (e : Ending) (w' : World) : Prop := ∃ z : Int, e = .returned (.int .i64 z) ∧ decide (0 ≤ z) = b ∧ Below w.heap.size w w'
structure NoneBad (l : List Tok) (k : Nat) : Prop where
  out : (l.take k).all may = true
theorem NoneBad.next {l : List Tok} {k : Nat} {t : Tok} (h : NoneBad l k) (ht : l[k]? = some t) (hm : may t = true) : NoneBad l (k + 1) := by
  refine ⟨?_⟩
  rw [List.take_add_one, ht]
  simp [List.all_append, h.out, hm]
theorem NoneBad.bad {l : List Tok} {k : Nat} {t : Tok} (ht : l[k]? = some t) (hm : may t = false) : l.all may = false := by
  rw [Bool.eq_false_iff]
  intro h
  rw [List.all_eq_true] at h
  have := h t (List.mem_of_getElem? ht)
  rw [hm] at this; cases this
theorem NoneBad.fin {l : List Tok} {k : Nat} (h : NoneBad l k) (hk : l.length ≤ k) : l.all may = true := by
  have := h.out
  rwa [List.take_of_length_le hk] at this
set_option maxHeartbeats 1600000 in
theorem indexFunc_any (w : World) (hi : Nat) (A : Option Addr) (n c : Nat) (l : List Tok) (h : TokIn w hi A n c l) (hh : hi ≤ w.heap.size) (ht : ∀ k ∈ l, TokOk k) (hL : LexEnv w) :
    Calls Tryd.prog 72 #[.slice A n c, .func (.func 68) #[] #[]] w (SaysIx w (!l.all may)) := by
  have hl := h.len
  have hn := h.max
  have HJ : Hid (∀ k ∈ l, ∀ Y, Below w.heap.size w Y → Calls Tryd.prog 68 #[.agg #[.int .i64 k.kind, .string k.text, .int .i64 k.int, .int .i64 k.place]] Y (Tells1 Y (!may k))) := Lib.hid fun k hk Y hb => joinF_any k Y (by have := (ht k hk).t; unfold maxLen; omega) (hL.below hb)
  have HI : Hid (∀ Y, Below w.heap.size w Y → TokIn Y hi A n c l) := Lib.hid fun Y hb => h.below (hb.mono hh)
  unfold maxLen at hn
  clear h ht hL
  go_enter Tryd.func72, Tryd.ntmps72
  go_wp2_with fail
  go_loopw [5, 8] (fun _ i wr => ∃ k : Nat, k ≤ n ∧ i = .int .i64 k ∧ NoneBad l k ∧ Below w.heap.size w wr) (fun _ i _ => n - (intOf i).toNat)
  case atStart => exact ⟨0, by omega, rfl, ⟨rfl⟩, Below.refl _ _⟩
  case round =>
    obtain ⟨k, hk, rfl, HK, hb⟩ := hrel
    by_cases hlt : k < n
    · obtain ⟨b, o, t, rfl, hbl, htk, hc⟩ := (HI.out wr hb).at_ hlt
      have c0 := hc.c0
      have c1 := hc.c1
      have c2 := hc.c2
      have c3 := hc.c3
      have HJT := Lib.hid (HJ.out t (List.mem_of_getElem? htk) wr hb)
      have HB := Lib.hid hb
      have HTK := Lib.hid htk
      clear hc hb htk
      cases hm : may t with
      | true =>
        rw [hm] at HJT
        have HX := HK.next HTK.out hm
        clear hm
        go_wp2_with (go_at_call 68; refine HJT.out.mono ?_; rintro e w2 ⟨rfl, hb2⟩)
        exact ⟨⟨k + 1, by omega, by go_num, HX, HB.out.trans (hb2.mono HB.out.size)⟩, by simp [intOf]; omega⟩
      | false =>
        rw [hm] at HJT
        have HX := Lib.hid (NoneBad.bad HTK.out hm)
        clear hm
        go_wp2_with (go_at_call 68; refine HJT.out.mono ?_; rintro e w2 ⟨rfl, hb2⟩)
        go_ret
        exact ⟨k, rfl, by rw [HX.out]; simp, HB.out.trans (hb2.mono HB.out.size)⟩
    · have HX := Lib.hid (HK.fin (by omega))
      go_wp2_with fail
      go_ret
      exact ⟨-1, rfl, by rw [HX.out]; rfl, hb⟩
theorem containsFunc_any (w : World) (hi : Nat) (A : Option Addr) (n c : Nat) (l : List Tok) (h : TokIn w hi A n c l) (hh : hi ≤ w.heap.size) (ht : ∀ k ∈ l, TokOk k) (hL : LexEnv w) :
    Calls Tryd.prog 67 #[.slice A n c, .func (.func 68) #[] #[]] w (Tells1 w (!l.all may)) := by
  have H := Lib.hid (indexFunc_any w hi A n c l h hh ht hL)
  clear h ht hL
  go_enter Tryd.func67, Tryd.ntmps67
  go_wp2_with (go_at_call 72; refine H.out.mono ?_; rintro e w2 ⟨z, rfl, hz, hb2⟩)
  go_ret
  exact tells1 (by rw [← hz]) hb2
end Go.Proofs.YtjlpoigcalfdlaaDoor
namespace Go.Proofs.YtjlpoigcalfdlaaDoor
open Go Go.RowKit Go.ChangeShapes Go.WideShapes Go.Deep
set_option linter.unusedVariables false
section
variable {w : World}
theorem cell_spot {a : Addr} {u : Value} (h : w.cell? a = some u) : a.spot = none := by
  unfold World.cell? at h
  split at h
  · split at h
    · cases h
    · rename_i hs
      cases ha : a.spot with
      | none => rfl
      | some k => rw [ha] at hs; simp at hs
  · cases h
theorem add_zero_ (a : Addr) : a.add 0 = a := by unfold Addr.add; simp
theorem addr_plain {a : Addr} (h : a.spot = none) : a = ⟨a.block, a.off, none⟩ := by
  obtain ⟨b, o, s⟩ := a
  obtain rfl : s = none := h
  rfl
/-- cells of an own kind, by the elements' index -/
theorem flat_cells {α : Type} {f : α → List Value} {s : Nat} (hs : ∀ a, (f a).length = s) (h0 : 0 < s) (l : List α) (a : Addr)
    (h : ∀ i p, l[i]? = some p → ∀ r u, (f p)[r]? = some u → w.cell? (a.add (i * s + r)) = some u) : ∀ j u, (l.flatMap f)[j]? = some u → w.cell? (a.add j) = some u := by
  intro j u hj
  have hl : j < l.length * s := by rw [← flatN_len hs l]; exact (List.getElem?_eq_some_iff.1 hj).1
  have hd : j / s < l.length := Nat.div_lt_of_lt_mul (by rwa [Nat.mul_comm] at hl)
  have hr : j % s < s := Nat.mod_lt _ h0
  have he : j / s * s + j % s = j := by rw [Nat.mul_comm]; exact Nat.div_add_mod j s
  have hp : l[j / s]? = some l[j / s] := List.getElem?_eq_getElem hd
  have := h (j / s) _ hp (j % s) u (by rw [← flatN_get hs l (j / s) _ hp _ hr, he]; exact hj)
  rwa [he] at this
theorem row_of {base n c size : Nat} {a : Addr} {xs : List Value} (hlen : xs.length = n * size) (h0 : 0 < size) (hn : n ≤ c) (hm : c ≤ maxLen) (hb : base ≤ a.block)
    (hc : ∀ j u, xs[j]? = some u → w.cell? (a.add j) = some u) : Row w base w.heap.size size (some a) n c xs := by
  refine ⟨hlen, hn, hm, fun hp => ?_⟩
  have hl : 0 < xs.length := by rw [hlen]; exact Nat.mul_pos hp h0
  have h1 := hc 0 _ (List.getElem?_eq_getElem hl)
  rw [add_zero_] at h1
  have ha := addr_plain (cell_spot h1)
  have hlt := block_lt_of_cell h1
  refine ⟨a.block, a.off, by rw [← ha], hb, hlt, fun j u hu => ?_⟩
  · have := hc j u hu
    rw [ha, Addr.add_lit] at this; exact this
end
instance tokInhabited : Inhabited Tok := ⟨⟨0, ByteArray.empty, 0, 0⟩⟩
section
variable {H : Type} {enc : TypeId × Value → H} {w : World} {base : Nat} {spare : Nat → Bool} {held : Bool}
theorem weights_all {P : Program} {e : TypeId} : ∀ {l : List (DataW H)} {d : DataW H}, d ∈ l → ∀ m ∈ d.weights P e, m ∈ DataW.weightsAll P e l
  | x :: r, d, h, m, hm => by
    simp only [DataW.weightsAll, List.mem_append]
    rcases List.mem_cons.1 h with rfl | h
    · exact .inl hm
    · exact .inr (weights_all h m hm)
theorem weights_slice {P : Program} {t e : TypeId} {l sp : List (DataW H)} {d : DataW H} (ht : P.underlying t = some (.slice e)) (h : d ∈ l) {m : Nat} (hm : m ∈ d.weights P e) : m ∈ (DataW.slice l sp).weights P t := by
  simp only [DataW.weights, ht, List.mem_cons, List.mem_append]
  exact .inr (.inl (weights_all h m hm))
theorem weights_struct {P : Program} {t : TypeId} {fs : Array Field} {l : List (DataW H)} (ht : P.underlying t = some (.struct fs)) {j : Nat} {f : Field} {d : DataW H} (hf : fs[j]? = some f) (hd : l[j]? = some d) {m : Nat} (hm : m ∈ d.weights P f.type) : m ∈ (DataW.agg l).weights P t := by
  simp only [DataW.weights, ht]
  refine DataW.weights_mem_each (j := j) (t := f.type) (d := d) ?_ hd m hm
  rw [List.getElem?_map, Array.getElem?_toList, hf]; rfl
/-- a struct of one-cell fields: each field's cell, with its reading -/
theorem fields_of {P : Program} {e : TypeId} {fs : Array Field} {fuel : Nat} {cs : List Value} {x : DataW H × List MemPlace} (he : P.underlying e = some (.struct fs)) (hone : oneCellFields P fs = true) (hlen : cs.length = fs.size)
    (h : DataW.trod enc P w base spare held fuel e cs = some x) :
    ∃ (ys : List (DataW H × List MemPlace)) (n : Nat), x.1 = .agg (ys.map (·.1)) ∧ ∀ (j : Nat) (f : Field), fs[j]? = some f → ∃ (v : Value) (y : DataW H × List MemPlace), cs[j]? = some v ∧ ys[j]? = some y ∧ DataW.trod enc P w base spare held n f.type [v] = some y := by
  obtain ⟨ys, n, _, rfl, hl, hys, hf⟩ := DataW.trod_struct he h
  refine ⟨ys, n, rfl, fun j f hj => ?_⟩
  have hjs : j < fs.size := (Array.getElem?_eq_some_iff.1 hj).1
  have hjl : j < cs.length := by omega
  have hjy : j < ys.length := by omega
  obtain ⟨o1, o2⟩ := hone_of hone j f hj
  have h1 := hf j f hj
  rw [o1, o2, List.drop_eq_getElem_cons hjl, List.take_succ_cons, List.take_zero, List.getElem?_eq_getElem hjy] at h1
  exact ⟨cs[j], ys[j], List.getElem?_eq_getElem hjl, List.getElem?_eq_getElem hjy, h1⟩
theorem wf64 {n : Int} (h : (Lit.int .i64 n).wf = true) : -9223372036854775808 ≤ n ∧ n ≤ 9223372036854775807 :=
  ⟨of_decide_eq_true (Bool.and_eq_true_iff.1 h).1, of_decide_eq_true (Bool.and_eq_true_iff.1 h).2⟩
/-- the form's reach, for an argument -/
theorem reach_at {ts : List TypeId} {ds : List (DataW H)} (h : (DataW.weightsEach Tryd.prog ts ds).all (· ≤ reachBytes) = true) {j : Nat} {t : TypeId} {d : DataW H} (ht : ts[j]? = some t) (hd : ds[j]? = some d) : ∀ m ∈ d.weights Tryd.prog t, m ≤ 140737488351232 := by
  intro m hm
  have := List.all_eq_true.1 h _ (DataW.weights_mem_each ht hd m hm)
  rw [decide_eq_true_eq] at this
  exact this
theorem post_read {P : Program} {f : Func} {s : ChangeSpec} {W W' : World} {args : Array Value} {v : Value} {ds gs : List (DataW H)} {before q : List MemPlace} (hW : DataW.Whole enc P f.params.toList s.vars false W args.toList ds gs before)
    (hres : DataW.TrodAll enc P W' W.heap.size (fun _ => false) false f.resultTypes.toList (v.resultList f.resultTypes.size) (s.fn H (ds ++ gs)).results [])
    (hargs : DataW.TrodAll enc P W' 0 (fun b => decide (b < W.heap.size)) true f.params.toList args.toList (s.fn H (ds ++ gs)).args q)
    (hvars : DataW.TrodVars enc P W' (fun b => decide (b < W.heap.size)) s.vars (s.fn H (ds ++ gs)).vars []) (hb : Below W.heap.size W W') :
    s.post enc P f false true false false W args v W' :=
  ⟨ds, gs, before, [], q, [], hW, hres, hargs, hvars, hb.frame _, fun h => by cases h⟩
end
end Go.Proofs.YtjlpoigcalfdlaaDoor

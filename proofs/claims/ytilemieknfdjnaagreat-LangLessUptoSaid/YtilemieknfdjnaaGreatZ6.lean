/-
  WALKS: named: an element's words are names, and none ahead of it is like it.
  WALKS: the loops of Twin.
  WALKS: the document: a round of the loop over the editors.
-/
import Derived.Test.YtilemieknfdjnaaGreatZ5
namespace Go.Proofs.YtilemieknfdjnaaGreat
open Go Go.RowKit Go.Sort
set_option linter.unusedVariables false
set_option maxRecDepth 20000 in
set_option maxHeartbeats 1600000 in
theorem named_str (w : World) (hi : Nat) (A : Option Addr) (n c : Nat) (l : List ByteArray) (h : Row w 0 hi 1 A n c (l.flatMap strC)) (hh : hi ≤ w.heap.size) (F : FuncId) (caps : Array Value) (bf : ByteArray → Bool) (HF : Tells w F caps (fun q : ByteArray => Value.string q) l bf)
    (hw : Nat) (Aw : Option Addr) (nw cw : Nat) (ws : List ByteArray) (hW : Row w 0 hw 1 Aw nw cw (ws.flatMap strC)) (hhw : hw ≤ w.heap.size) :
    Calls Tryz.prog 46 #[.slice A n c, .func (.func F) #[] caps, .slice Aw nw cw] w (Ret w (.int .i64 (namedV ws (l.any bf)))) := by
  have hc := hW.2.2.1
  have hnc := hW.2.1
  have hln : ws.length = nw := by have := hW.1; rw [flatN_len (f := strC) (s := 1) (fun _ => rfl)] at this; omega
  have HL := Lib.hid hln
  unfold maxLen at hc
  have HCN : Hid (∀ X, Below w.heap.size w X → Calls Tryz.prog 90 #[.slice A n c, .func (.func F) #[] caps] X (Ret X (.bool (l.any bf)))) := Lib.hid fun X hX => contains_str X hi A n c l (h.keep fun b o hb => hX.cell (p := ⟨b, o, none⟩) (Nat.lt_of_lt_of_le hb hh)) (Nat.le_trans hh hX.size) F caps bf (HF.after hX)
  clear hln HF h
  generalize l.any bf = y at HCN
  go_enter Tryz.func46, Tryz.ntmps46
  go_wp2_with fail
  go_loopw [11] (fun i wr => ∃ k : Nat, k ≤ nw ∧ i = .int .i64 k ∧ Hid (Below w.heap.size w wr) ∧ Hid ((ws.take k).all nmB = true)) (fun i _ => nw - (intOf i).toNat)
  case atStart => exact ⟨0, Nat.zero_le _, rfl, Lib.hid (Below.refl _ _), Lib.hid (by simp)⟩
  case round =>
    obtain ⟨k, hk, rfl, HB, HT⟩ := hrel
    rename World => wr
    by_cases hlt : k < nw
    · obtain ⟨b, o, rfl, _, hb, hcell⟩ := hW.at_ (by omega)
      obtain ⟨q, hq⟩ : ∃ q, ws[k]? = some q := ⟨ws[k]'(by have := HL.out; omega), List.getElem?_eq_getElem _⟩
      have c0 := (HB.out.cell (p := ⟨b, _, none⟩) (Nat.lt_of_lt_of_le hb hhw)).trans (hcell (k * 1 + 0) _ ((flatN_get (f := strC) (s := 1) (fun _ => rfl) ws k q hq 0 (by omega)).trans rfl))
      simp only [Nat.mul_one, Nat.add_zero] at c0
      have HQ := Lib.hid hq
      clear hcell hq
      cases d1 : nmB q with
      | true =>
        have HX : Hid ((ws.take (k + 1)).all nmB = true) := Lib.hid (by rw [List.take_add_one, HQ.out, List.all_append, HT.out]; simp [d1])
        have HD : Hid (nameL q.data.toList = true) := Lib.hid d1
        clear d1
        go_wp2_with (go_at_call 42; go_must (refine (nRight_any q _).mono ?_; rintro e w2 ⟨rfl, rfl⟩; rw [HD.out]))
        go_roundw
        case measure => simp only [intOf]; omega
        case rel => exact ⟨k + 1, by omega, by simp, HB, HX⟩
      | false =>
        have HX : Hid (namedV ws y = 2) := Lib.hid (by
          have : ws.all nmB = false := by
            rw [Bool.eq_false_iff]
            intro h
            have := List.all_eq_true.1 h q (List.mem_of_getElem? HQ.out)
            rw [d1] at this; cases this
          unfold namedV; rw [this]; rfl)
        have HD : Hid (nameL q.data.toList = false) := Lib.hid d1
        clear d1 hW
        go_wp2_with (go_at_call 42; go_must (refine (nRight_any q _).mono ?_; rintro e w2 ⟨rfl, rfl⟩; rw [HD.out]))
        go_ret
        exact ret_i HX.out rfl HB.out
    · have hkn : k = nw := by omega
      subst hkn
      have HX : Hid (namedV ws y = if y then 40 else 0) := Lib.hid (by
        have := HT.out
        rw [List.take_of_length_le (by have := HL.out; omega)] at this
        unfold namedV; rw [this]; rfl)
      have HC2 := Lib.hid (HCN.out wr HB.out)
      clear hW HCN
      cases y with
      | true =>
        go_wp2_with (go_at_call 90; go_must (refine HC2.out.mono ?_; rintro e w2 ⟨rfl, hb2⟩; have HB2 := Lib.hid (HB.out.trans (hb2.mono HB.out.size)); clear hb2))
        go_ret
        exact ret_i (HX.out.trans rfl) rfl HB2.out
      | false =>
        go_wp2_with (go_at_call 90; go_must (refine HC2.out.mono ?_; rintro e w2 ⟨rfl, hb2⟩; have HB2 := Lib.hid (HB.out.trans (hb2.mono HB.out.size)); clear hb2))
        go_ret
        exact ret_i (HX.out.trans rfl) rfl HB2.out
set_option maxRecDepth 20000 in
set_option maxHeartbeats 1600000 in
theorem named_con (w : World) (hi : Nat) (A : Option Addr) (n c : Nat) (l : List (ConD × Leaf)) (h : Row w 0 hi 6 A n c (l.flatMap conC)) (hh : hi ≤ w.heap.size) (F : FuncId) (caps : Array Value) (bf : (ConD × Leaf) → Bool) (HF : Tells w F caps (fun q : (ConD × Leaf) => .agg #[.string q.1.name, .string q.1.super, .bool q.1.abs, .slice q.2.p.A q.2.p.n q.2.p.c, .slice q.2.k.A q.2.k.n q.2.k.c, .slice q.2.r.A q.2.r.n q.2.r.c]) l bf)
    (hw : Nat) (Aw : Option Addr) (nw cw : Nat) (ws : List ByteArray) (hW : Row w 0 hw 1 Aw nw cw (ws.flatMap strC)) (hhw : hw ≤ w.heap.size) :
    Calls Tryz.prog 50 #[.slice A n c, .func (.func F) #[] caps, .slice Aw nw cw] w (Ret w (.int .i64 (namedV ws (l.any bf)))) := by
  have hc := hW.2.2.1
  have hnc := hW.2.1
  have hln : ws.length = nw := by have := hW.1; rw [flatN_len (f := strC) (s := 1) (fun _ => rfl)] at this; omega
  have HL := Lib.hid hln
  unfold maxLen at hc
  have HCN : Hid (∀ X, Below w.heap.size w X → Calls Tryz.prog 91 #[.slice A n c, .func (.func F) #[] caps] X (Ret X (.bool (l.any bf)))) := Lib.hid fun X hX => contains_con X hi A n c l (h.keep fun b o hb => hX.cell (p := ⟨b, o, none⟩) (Nat.lt_of_lt_of_le hb hh)) (Nat.le_trans hh hX.size) F caps bf (HF.after hX)
  clear hln HF h
  generalize l.any bf = y at HCN
  go_enter Tryz.func50, Tryz.ntmps50
  go_wp2_with fail
  go_loopw [11] (fun i wr => ∃ k : Nat, k ≤ nw ∧ i = .int .i64 k ∧ Hid (Below w.heap.size w wr) ∧ Hid ((ws.take k).all nmB = true)) (fun i _ => nw - (intOf i).toNat)
  case atStart => exact ⟨0, Nat.zero_le _, rfl, Lib.hid (Below.refl _ _), Lib.hid (by simp)⟩
  case round =>
    obtain ⟨k, hk, rfl, HB, HT⟩ := hrel
    rename World => wr
    by_cases hlt : k < nw
    · obtain ⟨b, o, rfl, _, hb, hcell⟩ := hW.at_ (by omega)
      obtain ⟨q, hq⟩ : ∃ q, ws[k]? = some q := ⟨ws[k]'(by have := HL.out; omega), List.getElem?_eq_getElem _⟩
      have c0 := (HB.out.cell (p := ⟨b, _, none⟩) (Nat.lt_of_lt_of_le hb hhw)).trans (hcell (k * 1 + 0) _ ((flatN_get (f := strC) (s := 1) (fun _ => rfl) ws k q hq 0 (by omega)).trans rfl))
      simp only [Nat.mul_one, Nat.add_zero] at c0
      have HQ := Lib.hid hq
      clear hcell hq
      cases d1 : nmB q with
      | true =>
        have HX : Hid ((ws.take (k + 1)).all nmB = true) := Lib.hid (by rw [List.take_add_one, HQ.out, List.all_append, HT.out]; simp [d1])
        have HD : Hid (nameL q.data.toList = true) := Lib.hid d1
        clear d1
        go_wp2_with (go_at_call 42; go_must (refine (nRight_any q _).mono ?_; rintro e w2 ⟨rfl, rfl⟩; rw [HD.out]))
        go_roundw
        case measure => simp only [intOf]; omega
        case rel => exact ⟨k + 1, by omega, by simp, HB, HX⟩
      | false =>
        have HX : Hid (namedV ws y = 2) := Lib.hid (by
          have : ws.all nmB = false := by
            rw [Bool.eq_false_iff]
            intro h
            have := List.all_eq_true.1 h q (List.mem_of_getElem? HQ.out)
            rw [d1] at this; cases this
          unfold namedV; rw [this]; rfl)
        have HD : Hid (nameL q.data.toList = false) := Lib.hid d1
        clear d1 hW
        go_wp2_with (go_at_call 42; go_must (refine (nRight_any q _).mono ?_; rintro e w2 ⟨rfl, rfl⟩; rw [HD.out]))
        go_ret
        exact ret_i HX.out rfl HB.out
    · have hkn : k = nw := by omega
      subst hkn
      have HX : Hid (namedV ws y = if y then 40 else 0) := Lib.hid (by
        have := HT.out
        rw [List.take_of_length_le (by have := HL.out; omega)] at this
        unfold namedV; rw [this]; rfl)
      have HC2 := Lib.hid (HCN.out wr HB.out)
      clear hW HCN
      cases y with
      | true =>
        go_wp2_with (go_at_call 91; go_must (refine HC2.out.mono ?_; rintro e w2 ⟨rfl, hb2⟩; have HB2 := Lib.hid (HB.out.trans (hb2.mono HB.out.size)); clear hb2))
        go_ret
        exact ret_i (HX.out.trans rfl) rfl HB2.out
      | false =>
        go_wp2_with (go_at_call 91; go_must (refine HC2.out.mono ?_; rintro e w2 ⟨rfl, hb2⟩; have HB2 := Lib.hid (HB.out.trans (hb2.mono HB.out.size)); clear hb2))
        go_ret
        exact ret_i (HX.out.trans rfl) rfl HB2.out
set_option maxRecDepth 20000 in
set_option maxHeartbeats 1600000 in
theorem named_pd (w : World) (hi : Nat) (A : Option Addr) (n c : Nat) (l : List PropD) (h : Row w 0 hi 2 A n c (l.flatMap pdC)) (hh : hi ≤ w.heap.size) (F : FuncId) (caps : Array Value) (bf : PropD → Bool) (HF : Tells w F caps (fun q : PropD => .agg #[.string q.name, .int .i64 q.typ]) l bf)
    (hw : Nat) (Aw : Option Addr) (nw cw : Nat) (ws : List ByteArray) (hW : Row w 0 hw 1 Aw nw cw (ws.flatMap strC)) (hhw : hw ≤ w.heap.size) :
    Calls Tryz.prog 94 #[.slice A n c, .func (.func F) #[] caps, .slice Aw nw cw] w (Ret w (.int .i64 (namedV ws (l.any bf)))) := by
  have hc := hW.2.2.1
  have hnc := hW.2.1
  have hln : ws.length = nw := by have := hW.1; rw [flatN_len (f := strC) (s := 1) (fun _ => rfl)] at this; omega
  have HL := Lib.hid hln
  unfold maxLen at hc
  have HCN : Hid (∀ X, Below w.heap.size w X → Calls Tryz.prog 127 #[.slice A n c, .func (.func F) #[] caps] X (Ret X (.bool (l.any bf)))) := Lib.hid fun X hX => contains_pd X hi A n c l (h.keep fun b o hb => hX.cell (p := ⟨b, o, none⟩) (Nat.lt_of_lt_of_le hb hh)) (Nat.le_trans hh hX.size) F caps bf (HF.after hX)
  clear hln HF h
  generalize l.any bf = y at HCN
  go_enter Tryz.func94, Tryz.ntmps94
  go_wp2_with fail
  go_loopw [11] (fun i wr => ∃ k : Nat, k ≤ nw ∧ i = .int .i64 k ∧ Hid (Below w.heap.size w wr) ∧ Hid ((ws.take k).all nmB = true)) (fun i _ => nw - (intOf i).toNat)
  case atStart => exact ⟨0, Nat.zero_le _, rfl, Lib.hid (Below.refl _ _), Lib.hid (by simp)⟩
  case round =>
    obtain ⟨k, hk, rfl, HB, HT⟩ := hrel
    rename World => wr
    by_cases hlt : k < nw
    · obtain ⟨b, o, rfl, _, hb, hcell⟩ := hW.at_ (by omega)
      obtain ⟨q, hq⟩ : ∃ q, ws[k]? = some q := ⟨ws[k]'(by have := HL.out; omega), List.getElem?_eq_getElem _⟩
      have c0 := (HB.out.cell (p := ⟨b, _, none⟩) (Nat.lt_of_lt_of_le hb hhw)).trans (hcell (k * 1 + 0) _ ((flatN_get (f := strC) (s := 1) (fun _ => rfl) ws k q hq 0 (by omega)).trans rfl))
      simp only [Nat.mul_one, Nat.add_zero] at c0
      have HQ := Lib.hid hq
      clear hcell hq
      cases d1 : nmB q with
      | true =>
        have HX : Hid ((ws.take (k + 1)).all nmB = true) := Lib.hid (by rw [List.take_add_one, HQ.out, List.all_append, HT.out]; simp [d1])
        have HD : Hid (nameL q.data.toList = true) := Lib.hid d1
        clear d1
        go_wp2_with (go_at_call 42; go_must (refine (nRight_any q _).mono ?_; rintro e w2 ⟨rfl, rfl⟩; rw [HD.out]))
        go_roundw
        case measure => simp only [intOf]; omega
        case rel => exact ⟨k + 1, by omega, by simp, HB, HX⟩
      | false =>
        have HX : Hid (namedV ws y = 2) := Lib.hid (by
          have : ws.all nmB = false := by
            rw [Bool.eq_false_iff]
            intro h
            have := List.all_eq_true.1 h q (List.mem_of_getElem? HQ.out)
            rw [d1] at this; cases this
          unfold namedV; rw [this]; rfl)
        have HD : Hid (nameL q.data.toList = false) := Lib.hid d1
        clear d1 hW
        go_wp2_with (go_at_call 42; go_must (refine (nRight_any q _).mono ?_; rintro e w2 ⟨rfl, rfl⟩; rw [HD.out]))
        go_ret
        exact ret_i HX.out rfl HB.out
    · have hkn : k = nw := by omega
      subst hkn
      have HX : Hid (namedV ws y = if y then 40 else 0) := Lib.hid (by
        have := HT.out
        rw [List.take_of_length_le (by have := HL.out; omega)] at this
        unfold namedV; rw [this]; rfl)
      have HC2 := Lib.hid (HCN.out wr HB.out)
      clear hW HCN
      cases y with
      | true =>
        go_wp2_with (go_at_call 127; go_must (refine HC2.out.mono ?_; rintro e w2 ⟨rfl, hb2⟩; have HB2 := Lib.hid (HB.out.trans (hb2.mono HB.out.size)); clear hb2))
        go_ret
        exact ret_i (HX.out.trans rfl) rfl HB2.out
      | false =>
        go_wp2_with (go_at_call 127; go_must (refine HC2.out.mono ?_; rintro e w2 ⟨rfl, hb2⟩; have HB2 := Lib.hid (HB.out.trans (hb2.mono HB.out.size)); clear hb2))
        go_ret
        exact ret_i (HX.out.trans rfl) rfl HB2.out
set_option maxRecDepth 20000 in
set_option maxHeartbeats 1600000 in
theorem named_kd (w : World) (hi : Nat) (A : Option Addr) (n c : Nat) (l : List KidD) (h : Row w 0 hi 4 A n c (l.flatMap kdC)) (hh : hi ≤ w.heap.size) (F : FuncId) (caps : Array Value) (bf : KidD → Bool) (HF : Tells w F caps (fun q : KidD => .agg #[.string q.role, .string q.con, .int .i64 q.min, .int .i64 q.max]) l bf)
    (hw : Nat) (Aw : Option Addr) (nw cw : Nat) (ws : List ByteArray) (hW : Row w 0 hw 1 Aw nw cw (ws.flatMap strC)) (hhw : hw ≤ w.heap.size) :
    Calls Tryz.prog 100 #[.slice A n c, .func (.func F) #[] caps, .slice Aw nw cw] w (Ret w (.int .i64 (namedV ws (l.any bf)))) := by
  have hc := hW.2.2.1
  have hnc := hW.2.1
  have hln : ws.length = nw := by have := hW.1; rw [flatN_len (f := strC) (s := 1) (fun _ => rfl)] at this; omega
  have HL := Lib.hid hln
  unfold maxLen at hc
  have HCN : Hid (∀ X, Below w.heap.size w X → Calls Tryz.prog 128 #[.slice A n c, .func (.func F) #[] caps] X (Ret X (.bool (l.any bf)))) := Lib.hid fun X hX => contains_kd X hi A n c l (h.keep fun b o hb => hX.cell (p := ⟨b, o, none⟩) (Nat.lt_of_lt_of_le hb hh)) (Nat.le_trans hh hX.size) F caps bf (HF.after hX)
  clear hln HF h
  generalize l.any bf = y at HCN
  go_enter Tryz.func100, Tryz.ntmps100
  go_wp2_with fail
  go_loopw [11] (fun i wr => ∃ k : Nat, k ≤ nw ∧ i = .int .i64 k ∧ Hid (Below w.heap.size w wr) ∧ Hid ((ws.take k).all nmB = true)) (fun i _ => nw - (intOf i).toNat)
  case atStart => exact ⟨0, Nat.zero_le _, rfl, Lib.hid (Below.refl _ _), Lib.hid (by simp)⟩
  case round =>
    obtain ⟨k, hk, rfl, HB, HT⟩ := hrel
    rename World => wr
    by_cases hlt : k < nw
    · obtain ⟨b, o, rfl, _, hb, hcell⟩ := hW.at_ (by omega)
      obtain ⟨q, hq⟩ : ∃ q, ws[k]? = some q := ⟨ws[k]'(by have := HL.out; omega), List.getElem?_eq_getElem _⟩
      have c0 := (HB.out.cell (p := ⟨b, _, none⟩) (Nat.lt_of_lt_of_le hb hhw)).trans (hcell (k * 1 + 0) _ ((flatN_get (f := strC) (s := 1) (fun _ => rfl) ws k q hq 0 (by omega)).trans rfl))
      simp only [Nat.mul_one, Nat.add_zero] at c0
      have HQ := Lib.hid hq
      clear hcell hq
      cases d1 : nmB q with
      | true =>
        have HX : Hid ((ws.take (k + 1)).all nmB = true) := Lib.hid (by rw [List.take_add_one, HQ.out, List.all_append, HT.out]; simp [d1])
        have HD : Hid (nameL q.data.toList = true) := Lib.hid d1
        clear d1
        go_wp2_with (go_at_call 42; go_must (refine (nRight_any q _).mono ?_; rintro e w2 ⟨rfl, rfl⟩; rw [HD.out]))
        go_roundw
        case measure => simp only [intOf]; omega
        case rel => exact ⟨k + 1, by omega, by simp, HB, HX⟩
      | false =>
        have HX : Hid (namedV ws y = 2) := Lib.hid (by
          have : ws.all nmB = false := by
            rw [Bool.eq_false_iff]
            intro h
            have := List.all_eq_true.1 h q (List.mem_of_getElem? HQ.out)
            rw [d1] at this; cases this
          unfold namedV; rw [this]; rfl)
        have HD : Hid (nameL q.data.toList = false) := Lib.hid d1
        clear d1 hW
        go_wp2_with (go_at_call 42; go_must (refine (nRight_any q _).mono ?_; rintro e w2 ⟨rfl, rfl⟩; rw [HD.out]))
        go_ret
        exact ret_i HX.out rfl HB.out
    · have hkn : k = nw := by omega
      subst hkn
      have HX : Hid (namedV ws y = if y then 40 else 0) := Lib.hid (by
        have := HT.out
        rw [List.take_of_length_le (by have := HL.out; omega)] at this
        unfold namedV; rw [this]; rfl)
      have HC2 := Lib.hid (HCN.out wr HB.out)
      clear hW HCN
      cases y with
      | true =>
        go_wp2_with (go_at_call 128; go_must (refine HC2.out.mono ?_; rintro e w2 ⟨rfl, hb2⟩; have HB2 := Lib.hid (HB.out.trans (hb2.mono HB.out.size)); clear hb2))
        go_ret
        exact ret_i (HX.out.trans rfl) rfl HB2.out
      | false =>
        go_wp2_with (go_at_call 128; go_must (refine HC2.out.mono ?_; rintro e w2 ⟨rfl, hb2⟩; have HB2 := Lib.hid (HB.out.trans (hb2.mono HB.out.size)); clear hb2))
        go_ret
        exact ret_i (HX.out.trans rfl) rfl HB2.out
set_option maxRecDepth 20000 in
set_option maxHeartbeats 1600000 in
theorem named_rd (w : World) (hi : Nat) (A : Option Addr) (n c : Nat) (l : List RefD) (h : Row w 0 hi 3 A n c (l.flatMap rdC)) (hh : hi ≤ w.heap.size) (F : FuncId) (caps : Array Value) (bf : RefD → Bool) (HF : Tells w F caps (fun q : RefD => .agg #[.string q.role, .string q.con, .bool q.need]) l bf)
    (hw : Nat) (Aw : Option Addr) (nw cw : Nat) (ws : List ByteArray) (hW : Row w 0 hw 1 Aw nw cw (ws.flatMap strC)) (hhw : hw ≤ w.heap.size) :
    Calls Tryz.prog 104 #[.slice A n c, .func (.func F) #[] caps, .slice Aw nw cw] w (Ret w (.int .i64 (namedV ws (l.any bf)))) := by
  have hc := hW.2.2.1
  have hnc := hW.2.1
  have hln : ws.length = nw := by have := hW.1; rw [flatN_len (f := strC) (s := 1) (fun _ => rfl)] at this; omega
  have HL := Lib.hid hln
  unfold maxLen at hc
  have HCN : Hid (∀ X, Below w.heap.size w X → Calls Tryz.prog 129 #[.slice A n c, .func (.func F) #[] caps] X (Ret X (.bool (l.any bf)))) := Lib.hid fun X hX => contains_rd X hi A n c l (h.keep fun b o hb => hX.cell (p := ⟨b, o, none⟩) (Nat.lt_of_lt_of_le hb hh)) (Nat.le_trans hh hX.size) F caps bf (HF.after hX)
  clear hln HF h
  generalize l.any bf = y at HCN
  go_enter Tryz.func104, Tryz.ntmps104
  go_wp2_with fail
  go_loopw [11] (fun i wr => ∃ k : Nat, k ≤ nw ∧ i = .int .i64 k ∧ Hid (Below w.heap.size w wr) ∧ Hid ((ws.take k).all nmB = true)) (fun i _ => nw - (intOf i).toNat)
  case atStart => exact ⟨0, Nat.zero_le _, rfl, Lib.hid (Below.refl _ _), Lib.hid (by simp)⟩
  case round =>
    obtain ⟨k, hk, rfl, HB, HT⟩ := hrel
    rename World => wr
    by_cases hlt : k < nw
    · obtain ⟨b, o, rfl, _, hb, hcell⟩ := hW.at_ (by omega)
      obtain ⟨q, hq⟩ : ∃ q, ws[k]? = some q := ⟨ws[k]'(by have := HL.out; omega), List.getElem?_eq_getElem _⟩
      have c0 := (HB.out.cell (p := ⟨b, _, none⟩) (Nat.lt_of_lt_of_le hb hhw)).trans (hcell (k * 1 + 0) _ ((flatN_get (f := strC) (s := 1) (fun _ => rfl) ws k q hq 0 (by omega)).trans rfl))
      simp only [Nat.mul_one, Nat.add_zero] at c0
      have HQ := Lib.hid hq
      clear hcell hq
      cases d1 : nmB q with
      | true =>
        have HX : Hid ((ws.take (k + 1)).all nmB = true) := Lib.hid (by rw [List.take_add_one, HQ.out, List.all_append, HT.out]; simp [d1])
        have HD : Hid (nameL q.data.toList = true) := Lib.hid d1
        clear d1
        go_wp2_with (go_at_call 42; go_must (refine (nRight_any q _).mono ?_; rintro e w2 ⟨rfl, rfl⟩; rw [HD.out]))
        go_roundw
        case measure => simp only [intOf]; omega
        case rel => exact ⟨k + 1, by omega, by simp, HB, HX⟩
      | false =>
        have HX : Hid (namedV ws y = 2) := Lib.hid (by
          have : ws.all nmB = false := by
            rw [Bool.eq_false_iff]
            intro h
            have := List.all_eq_true.1 h q (List.mem_of_getElem? HQ.out)
            rw [d1] at this; cases this
          unfold namedV; rw [this]; rfl)
        have HD : Hid (nameL q.data.toList = false) := Lib.hid d1
        clear d1 hW
        go_wp2_with (go_at_call 42; go_must (refine (nRight_any q _).mono ?_; rintro e w2 ⟨rfl, rfl⟩; rw [HD.out]))
        go_ret
        exact ret_i HX.out rfl HB.out
    · have hkn : k = nw := by omega
      subst hkn
      have HX : Hid (namedV ws y = if y then 40 else 0) := Lib.hid (by
        have := HT.out
        rw [List.take_of_length_le (by have := HL.out; omega)] at this
        unfold namedV; rw [this]; rfl)
      have HC2 := Lib.hid (HCN.out wr HB.out)
      clear hW HCN
      cases y with
      | true =>
        go_wp2_with (go_at_call 129; go_must (refine HC2.out.mono ?_; rintro e w2 ⟨rfl, hb2⟩; have HB2 := Lib.hid (HB.out.trans (hb2.mono HB.out.size)); clear hb2))
        go_ret
        exact ret_i (HX.out.trans rfl) rfl HB2.out
      | false =>
        go_wp2_with (go_at_call 129; go_must (refine HC2.out.mono ?_; rintro e w2 ⟨rfl, hb2⟩; have HB2 := Lib.hid (HB.out.trans (hb2.mono HB.out.size)); clear hb2))
        go_ret
        exact ret_i (HX.out.trans rfl) rfl HB2.out
set_option maxRecDepth 20000 in
set_option maxHeartbeats 1600000 in
theorem named_ru (w : World) (hi : Nat) (A : Option Addr) (n c : Nat) (l : List RuleD) (h : Row w 0 hi 4 A n c (l.flatMap ruC)) (hh : hi ≤ w.heap.size) (F : FuncId) (caps : Array Value) (bf : RuleD → Bool) (HF : Tells w F caps (fun q : RuleD => .agg #[.string q.con, .string q.name, .bool q.scope, .string q.expr]) l bf)
    (hw : Nat) (Aw : Option Addr) (nw cw : Nat) (ws : List ByteArray) (hW : Row w 0 hw 1 Aw nw cw (ws.flatMap strC)) (hhw : hw ≤ w.heap.size) :
    Calls Tryz.prog 59 #[.slice A n c, .func (.func F) #[] caps, .slice Aw nw cw] w (Ret w (.int .i64 (namedV ws (l.any bf)))) := by
  have hc := hW.2.2.1
  have hnc := hW.2.1
  have hln : ws.length = nw := by have := hW.1; rw [flatN_len (f := strC) (s := 1) (fun _ => rfl)] at this; omega
  have HL := Lib.hid hln
  unfold maxLen at hc
  have HCN : Hid (∀ X, Below w.heap.size w X → Calls Tryz.prog 106 #[.slice A n c, .func (.func F) #[] caps] X (Ret X (.bool (l.any bf)))) := Lib.hid fun X hX => contains_ru X hi A n c l (h.keep fun b o hb => hX.cell (p := ⟨b, o, none⟩) (Nat.lt_of_lt_of_le hb hh)) (Nat.le_trans hh hX.size) F caps bf (HF.after hX)
  clear hln HF h
  generalize l.any bf = y at HCN
  go_enter Tryz.func59, Tryz.ntmps59
  go_wp2_with fail
  go_loopw [11] (fun i wr => ∃ k : Nat, k ≤ nw ∧ i = .int .i64 k ∧ Hid (Below w.heap.size w wr) ∧ Hid ((ws.take k).all nmB = true)) (fun i _ => nw - (intOf i).toNat)
  case atStart => exact ⟨0, Nat.zero_le _, rfl, Lib.hid (Below.refl _ _), Lib.hid (by simp)⟩
  case round =>
    obtain ⟨k, hk, rfl, HB, HT⟩ := hrel
    rename World => wr
    by_cases hlt : k < nw
    · obtain ⟨b, o, rfl, _, hb, hcell⟩ := hW.at_ (by omega)
      obtain ⟨q, hq⟩ : ∃ q, ws[k]? = some q := ⟨ws[k]'(by have := HL.out; omega), List.getElem?_eq_getElem _⟩
      have c0 := (HB.out.cell (p := ⟨b, _, none⟩) (Nat.lt_of_lt_of_le hb hhw)).trans (hcell (k * 1 + 0) _ ((flatN_get (f := strC) (s := 1) (fun _ => rfl) ws k q hq 0 (by omega)).trans rfl))
      simp only [Nat.mul_one, Nat.add_zero] at c0
      have HQ := Lib.hid hq
      clear hcell hq
      cases d1 : nmB q with
      | true =>
        have HX : Hid ((ws.take (k + 1)).all nmB = true) := Lib.hid (by rw [List.take_add_one, HQ.out, List.all_append, HT.out]; simp [d1])
        have HD : Hid (nameL q.data.toList = true) := Lib.hid d1
        clear d1
        go_wp2_with (go_at_call 42; go_must (refine (nRight_any q _).mono ?_; rintro e w2 ⟨rfl, rfl⟩; rw [HD.out]))
        go_roundw
        case measure => simp only [intOf]; omega
        case rel => exact ⟨k + 1, by omega, by simp, HB, HX⟩
      | false =>
        have HX : Hid (namedV ws y = 2) := Lib.hid (by
          have : ws.all nmB = false := by
            rw [Bool.eq_false_iff]
            intro h
            have := List.all_eq_true.1 h q (List.mem_of_getElem? HQ.out)
            rw [d1] at this; cases this
          unfold namedV; rw [this]; rfl)
        have HD : Hid (nameL q.data.toList = false) := Lib.hid d1
        clear d1 hW
        go_wp2_with (go_at_call 42; go_must (refine (nRight_any q _).mono ?_; rintro e w2 ⟨rfl, rfl⟩; rw [HD.out]))
        go_ret
        exact ret_i HX.out rfl HB.out
    · have hkn : k = nw := by omega
      subst hkn
      have HX : Hid (namedV ws y = if y then 40 else 0) := Lib.hid (by
        have := HT.out
        rw [List.take_of_length_le (by have := HL.out; omega)] at this
        unfold namedV; rw [this]; rfl)
      have HC2 := Lib.hid (HCN.out wr HB.out)
      clear hW HCN
      cases y with
      | true =>
        go_wp2_with (go_at_call 106; go_must (refine HC2.out.mono ?_; rintro e w2 ⟨rfl, hb2⟩; have HB2 := Lib.hid (HB.out.trans (hb2.mono HB.out.size)); clear hb2))
        go_ret
        exact ret_i (HX.out.trans rfl) rfl HB2.out
      | false =>
        go_wp2_with (go_at_call 106; go_must (refine HC2.out.mono ?_; rintro e w2 ⟨rfl, hb2⟩; have HB2 := Lib.hid (HB.out.trans (hb2.mono HB.out.size)); clear hb2))
        go_ret
        exact ret_i (HX.out.trans rfl) rfl HB2.out
set_option maxRecDepth 20000 in
set_option maxHeartbeats 1600000 in
theorem named_ed (w : World) (hi : Nat) (A : Option Addr) (n c : Nat) (l : List (RowD × Sl)) (h : Row w 0 hi 2 A n c (l.flatMap rowC)) (hh : hi ≤ w.heap.size) (F : FuncId) (caps : Array Value) (bf : (RowD × Sl) → Bool) (HF : Tells w F caps (fun q : (RowD × Sl) => .agg #[.string q.1.con, .slice q.2.A q.2.n q.2.c]) l bf)
    (hw : Nat) (Aw : Option Addr) (nw cw : Nat) (ws : List ByteArray) (hW : Row w 0 hw 1 Aw nw cw (ws.flatMap strC)) (hhw : hw ≤ w.heap.size) :
    Calls Tryz.prog 68 #[.slice A n c, .func (.func F) #[] caps, .slice Aw nw cw] w (Ret w (.int .i64 (namedV ws (l.any bf)))) := by
  have hc := hW.2.2.1
  have hnc := hW.2.1
  have hln : ws.length = nw := by have := hW.1; rw [flatN_len (f := strC) (s := 1) (fun _ => rfl)] at this; omega
  have HL := Lib.hid hln
  unfold maxLen at hc
  have HCN : Hid (∀ X, Below w.heap.size w X → Calls Tryz.prog 111 #[.slice A n c, .func (.func F) #[] caps] X (Ret X (.bool (l.any bf)))) := Lib.hid fun X hX => contains_ed X hi A n c l (h.keep fun b o hb => hX.cell (p := ⟨b, o, none⟩) (Nat.lt_of_lt_of_le hb hh)) (Nat.le_trans hh hX.size) F caps bf (HF.after hX)
  clear hln HF h
  generalize l.any bf = y at HCN
  go_enter Tryz.func68, Tryz.ntmps68
  go_wp2_with fail
  go_loopw [11] (fun i wr => ∃ k : Nat, k ≤ nw ∧ i = .int .i64 k ∧ Hid (Below w.heap.size w wr) ∧ Hid ((ws.take k).all nmB = true)) (fun i _ => nw - (intOf i).toNat)
  case atStart => exact ⟨0, Nat.zero_le _, rfl, Lib.hid (Below.refl _ _), Lib.hid (by simp)⟩
  case round =>
    obtain ⟨k, hk, rfl, HB, HT⟩ := hrel
    rename World => wr
    by_cases hlt : k < nw
    · obtain ⟨b, o, rfl, _, hb, hcell⟩ := hW.at_ (by omega)
      obtain ⟨q, hq⟩ : ∃ q, ws[k]? = some q := ⟨ws[k]'(by have := HL.out; omega), List.getElem?_eq_getElem _⟩
      have c0 := (HB.out.cell (p := ⟨b, _, none⟩) (Nat.lt_of_lt_of_le hb hhw)).trans (hcell (k * 1 + 0) _ ((flatN_get (f := strC) (s := 1) (fun _ => rfl) ws k q hq 0 (by omega)).trans rfl))
      simp only [Nat.mul_one, Nat.add_zero] at c0
      have HQ := Lib.hid hq
      clear hcell hq
      cases d1 : nmB q with
      | true =>
        have HX : Hid ((ws.take (k + 1)).all nmB = true) := Lib.hid (by rw [List.take_add_one, HQ.out, List.all_append, HT.out]; simp [d1])
        have HD : Hid (nameL q.data.toList = true) := Lib.hid d1
        clear d1
        go_wp2_with (go_at_call 42; go_must (refine (nRight_any q _).mono ?_; rintro e w2 ⟨rfl, rfl⟩; rw [HD.out]))
        go_roundw
        case measure => simp only [intOf]; omega
        case rel => exact ⟨k + 1, by omega, by simp, HB, HX⟩
      | false =>
        have HX : Hid (namedV ws y = 2) := Lib.hid (by
          have : ws.all nmB = false := by
            rw [Bool.eq_false_iff]
            intro h
            have := List.all_eq_true.1 h q (List.mem_of_getElem? HQ.out)
            rw [d1] at this; cases this
          unfold namedV; rw [this]; rfl)
        have HD : Hid (nameL q.data.toList = false) := Lib.hid d1
        clear d1 hW
        go_wp2_with (go_at_call 42; go_must (refine (nRight_any q _).mono ?_; rintro e w2 ⟨rfl, rfl⟩; rw [HD.out]))
        go_ret
        exact ret_i HX.out rfl HB.out
    · have hkn : k = nw := by omega
      subst hkn
      have HX : Hid (namedV ws y = if y then 40 else 0) := Lib.hid (by
        have := HT.out
        rw [List.take_of_length_le (by have := HL.out; omega)] at this
        unfold namedV; rw [this]; rfl)
      have HC2 := Lib.hid (HCN.out wr HB.out)
      clear hW HCN
      cases y with
      | true =>
        go_wp2_with (go_at_call 111; go_must (refine HC2.out.mono ?_; rintro e w2 ⟨rfl, hb2⟩; have HB2 := Lib.hid (HB.out.trans (hb2.mono HB.out.size)); clear hb2))
        go_ret
        exact ret_i (HX.out.trans rfl) rfl HB2.out
      | false =>
        go_wp2_with (go_at_call 111; go_must (refine HC2.out.mono ?_; rintro e w2 ⟨rfl, hb2⟩; have HB2 := Lib.hid (HB.out.trans (hb2.mono HB.out.size)); clear hb2))
        go_ret
        exact ret_i (HX.out.trans rfl) rfl HB2.out
set_option maxRecDepth 20000 in
set_option maxHeartbeats 1600000 in
theorem named_te (w : World) (hi : Nat) (A : Option Addr) (n c : Nat) (l : List (RowD × Sl)) (h : Row w 0 hi 2 A n c (l.flatMap rowC)) (hh : hi ≤ w.heap.size) (F : FuncId) (caps : Array Value) (bf : (RowD × Sl) → Bool) (HF : Tells w F caps (fun q : (RowD × Sl) => .agg #[.string q.1.con, .slice q.2.A q.2.n q.2.c]) l bf)
    (hw : Nat) (Aw : Option Addr) (nw cw : Nat) (ws : List ByteArray) (hW : Row w 0 hw 1 Aw nw cw (ws.flatMap strC)) (hhw : hw ≤ w.heap.size) :
    Calls Tryz.prog 75 #[.slice A n c, .func (.func F) #[] caps, .slice Aw nw cw] w (Ret w (.int .i64 (namedV ws (l.any bf)))) := by
  have hc := hW.2.2.1
  have hnc := hW.2.1
  have hln : ws.length = nw := by have := hW.1; rw [flatN_len (f := strC) (s := 1) (fun _ => rfl)] at this; omega
  have HL := Lib.hid hln
  unfold maxLen at hc
  have HCN : Hid (∀ X, Below w.heap.size w X → Calls Tryz.prog 112 #[.slice A n c, .func (.func F) #[] caps] X (Ret X (.bool (l.any bf)))) := Lib.hid fun X hX => contains_te X hi A n c l (h.keep fun b o hb => hX.cell (p := ⟨b, o, none⟩) (Nat.lt_of_lt_of_le hb hh)) (Nat.le_trans hh hX.size) F caps bf (HF.after hX)
  clear hln HF h
  generalize l.any bf = y at HCN
  go_enter Tryz.func75, Tryz.ntmps75
  go_wp2_with fail
  go_loopw [11] (fun i wr => ∃ k : Nat, k ≤ nw ∧ i = .int .i64 k ∧ Hid (Below w.heap.size w wr) ∧ Hid ((ws.take k).all nmB = true)) (fun i _ => nw - (intOf i).toNat)
  case atStart => exact ⟨0, Nat.zero_le _, rfl, Lib.hid (Below.refl _ _), Lib.hid (by simp)⟩
  case round =>
    obtain ⟨k, hk, rfl, HB, HT⟩ := hrel
    rename World => wr
    by_cases hlt : k < nw
    · obtain ⟨b, o, rfl, _, hb, hcell⟩ := hW.at_ (by omega)
      obtain ⟨q, hq⟩ : ∃ q, ws[k]? = some q := ⟨ws[k]'(by have := HL.out; omega), List.getElem?_eq_getElem _⟩
      have c0 := (HB.out.cell (p := ⟨b, _, none⟩) (Nat.lt_of_lt_of_le hb hhw)).trans (hcell (k * 1 + 0) _ ((flatN_get (f := strC) (s := 1) (fun _ => rfl) ws k q hq 0 (by omega)).trans rfl))
      simp only [Nat.mul_one, Nat.add_zero] at c0
      have HQ := Lib.hid hq
      clear hcell hq
      cases d1 : nmB q with
      | true =>
        have HX : Hid ((ws.take (k + 1)).all nmB = true) := Lib.hid (by rw [List.take_add_one, HQ.out, List.all_append, HT.out]; simp [d1])
        have HD : Hid (nameL q.data.toList = true) := Lib.hid d1
        clear d1
        go_wp2_with (go_at_call 42; go_must (refine (nRight_any q _).mono ?_; rintro e w2 ⟨rfl, rfl⟩; rw [HD.out]))
        go_roundw
        case measure => simp only [intOf]; omega
        case rel => exact ⟨k + 1, by omega, by simp, HB, HX⟩
      | false =>
        have HX : Hid (namedV ws y = 2) := Lib.hid (by
          have : ws.all nmB = false := by
            rw [Bool.eq_false_iff]
            intro h
            have := List.all_eq_true.1 h q (List.mem_of_getElem? HQ.out)
            rw [d1] at this; cases this
          unfold namedV; rw [this]; rfl)
        have HD : Hid (nameL q.data.toList = false) := Lib.hid d1
        clear d1 hW
        go_wp2_with (go_at_call 42; go_must (refine (nRight_any q _).mono ?_; rintro e w2 ⟨rfl, rfl⟩; rw [HD.out]))
        go_ret
        exact ret_i HX.out rfl HB.out
    · have hkn : k = nw := by omega
      subst hkn
      have HX : Hid (namedV ws y = if y then 40 else 0) := Lib.hid (by
        have := HT.out
        rw [List.take_of_length_le (by have := HL.out; omega)] at this
        unfold namedV; rw [this]; rfl)
      have HC2 := Lib.hid (HCN.out wr HB.out)
      clear hW HCN
      cases y with
      | true =>
        go_wp2_with (go_at_call 112; go_must (refine HC2.out.mono ?_; rintro e w2 ⟨rfl, hb2⟩; have HB2 := Lib.hid (HB.out.trans (hb2.mono HB.out.size)); clear hb2))
        go_ret
        exact ret_i (HX.out.trans rfl) rfl HB2.out
      | false =>
        go_wp2_with (go_at_call 112; go_must (refine HC2.out.mono ?_; rintro e w2 ⟨rfl, hb2⟩; have HB2 := Lib.hid (HB.out.trans (hb2.mono HB.out.size)); clear hb2))
        go_ret
        exact ret_i (HX.out.trans rfl) rfl HB2.out
end Go.Proofs.YtilemieknfdjnaaGreat
namespace Go.Proofs.YtilemieknfdjnaaGreat
open Go Go.RowKit Go.Sort
set_option linter.unusedVariables false
/-- the loops' bodies, in order -/
def loopsOf : Code → List Code
  | .loop c => [c]
  | .seq a b => loopsOf a ++ loopsOf b
  | .block _ c => loopsOf c
  | .scope c => loopsOf c
  | .cond _ a b => loopsOf a ++ loopsOf b
  | _ => []
/-- append to a new empty list, as a step of a region that draws its order: the answer's form is told, nothing is put in its place behind it -/
theorem step_appN {P : Program} {w W : World} {ops : Array Oper} {o : Oper} {a : Act} {K : Act → World → Prop} {Q : Exit → Act → World → Prop} {E : Prop} (hgd : o.guard = none) (s x : Operand) (t : TypeId)
    (ho : o.op = .call { callee := .builtin .append, args := #[s, x], argTypes := #[t, t] })
    (e : TypeId) (i : TypeInfo) (z : Value) (size bytes : Nat) (ht : P.underlying t = some (.slice e)) (hi : P.info? e = some i) (hz : i.zero = some z)
    (hsize : i.size = size) (hby : i.bytes = bytes) (hzs : z.cells.size = size) (hsz : 0 < size) {g : Nat} (hs : a.eval s = .slice (some ⟨g, 0, none⟩) 0 0) (hb : Below W.heap.size W w) (hg : Blk w g e #[]) (hle : W.heap.size ≤ g)
    {lo hi' : Nat} {A : Option Addr} {m c : Nat} {news : List Value} (hx : a.eval x = .slice A m c) (hr : Row w lo hi' size A m c news) (h1 : ∀ u ∈ news, u.oneCell' = true)
    (h63 : m ≤ maxLen) (hbytes : m * bytes ≤ 140737488355328)
    (h : ∀ (A' : Option Addr) (c' : Nat) (w' : World), w'.ownsRow W.heap.size e size (.slice A' m c') m news → Below W.heap.size W w' → K (a.put o.dst (.slice A' m c')) w') :
    if Region.wanted o (yielded ops a.tmps) = true then Oper.wp P o a w K Q else E :=
  step_app w hgd s x t ho W.heap.size e i z size bytes ht hi hz hsize hby hzs hsz (.slice (some ⟨g, 0, none⟩) 0 0) 0 [] hs (own_emptyB hg hle) lo hi' A m c news hx hr h1 (by omega) (by rw [Nat.zero_add]; exact hbytes) hb.size
    fun v' w' hown hgr _ => by
      obtain ⟨A', c', rfl, ho, hb'⟩ := app_new hb hg hle hown hgr
      exact h A' c' w' ho hb'
noncomputable def twinBody (q : Nat) : Code := (((Tryz.f11.body.map loopsOf).getD [])[q]?).getD .skip
end Go.Proofs.YtilemieknfdjnaaGreat
namespace Go.Proofs.YtilemieknfdjnaaGreat
open Go Go.RowKit Go.Sort
set_option linter.unusedVariables false
attribute [local go_sem ↓] Go.wp_at_zero Go.wp_at_succ
set_option maxRecDepth 20000 in
set_option maxHeartbeats 3200000 in
/-- a round: one row of cells is told anew -/
theorem twin_ed_round {wr X0 : World} {hi gB b o n c k : Nat} {Aq : Option Addr} {nq cq : Nat} {con : ByteArray} {cells : List CellD} {m : List (RowD × Sl)} {ov : Value} {fr0 fr2 fr3 fr4 fr5 fr6 fr9 fr10 fr11 fr12 fr13 fr14 fr15 fr16 fr17 fr18 fr19 fr20 fr21 fr22 fr23 fr24 fr25 fr26 fr27 fr28 fr29 fr30 fr31 fr32 fr33 fr34 fr35 fr36 fr37 fr38 fr39 fr40 fr41 fr42 fr43 fr44 fr45 fr46 fr47 fr48 fr49 fr50 fr51 fr52 fr53 fr54 fr55 fr56 fr57 fr58 fr59 fr60 fr61 fr62 fr63 fr64 fr65 fr66 fr67 fr68 fr69 fr70 fr71 fr72 fr73 fr74 fr75 fr76 fr77 fr78 fr79 fr80 fr81 fr82 fr83 fr84 fr85 fr86 fr87 fr88 fr89 fr90 fr91 fr92 fr93 fr94 fr95 fr96 fr97 fr98 fr99 fr100 fr101 fr102 fr103 fr104 fr105 fr106 fr107 fr108 fr109 fr110 fr111 fr112 fr113 fr114 fr115 fr116 fr117 fr118 fr119 fr120 fr121 fr122 fr123 fr124 fr125 fr126 : Value}
    (hSo : ∀ X : World, Below wr.heap.size wr X → (X.cell? ⟨gB, 6, none⟩ = some (.slice (some ⟨b, o, none⟩) n c) ∧ X.cell? ⟨b, o + k * 2, none⟩ = some (.string con) ∧ X.cell? ⟨b, o + k * 2 + 1, none⟩ = some (.slice Aq nq cq))) (hR : Row wr 0 hi 3 Aq nq cq (ceCells cells)) (hRn : nq = cells.length) (hnq : nq ≤ 20000) (hhw : hi ≤ wr.heap.size)
    (hB : Below X0.heap.size X0 wr) (hG : GL rowC (RowOwn 74) 55 2 X0.heap.size ov m wr) (hml : m.length = k) (hlt : k < n) (hn : n ≤ 20000)
    (Q : Exit → Act → World → Prop) (hPn : ∀ x (a a' : Act) (w : World), Q (.panic x) a w → a.defers = a'.defers → Q (.panic x) a' w)
    (hQ : ∀ (wx : World) (A' : Option Addr) (c' : Nat) (v7 v8 : Value), v8 = .int .i64 ((k + 1 : Nat) : Int) → ∀ fw72 fw73 fw74 fw75 fw76 fw77 fw78 fw79 fw80 fw81 fw82 fw83 fw84 fw85 fw86 fw87 fw88 fw89 fw90 fw91 fw92 fw93 fw94 fw95 fw96 : Value, Below X0.heap.size X0 wx → GL rowC (RowOwn 74) 55 2 X0.heap.size v7 (m ++ [(⟨con, cells⟩, ⟨A', nq, c'⟩)]) wx → Q .normal ⟨#[fr0, .pointer (some ⟨gB, 0, none⟩), fr2, fr3, fr4, fr5, fr6, v7, v8, fr9, fr10, fr11, fr12, fr13, fr14, fr15, fr16, fr17, fr18, fr19, fr20, fr21, fr22, fr23, fr24, fr25, fr26, fr27, fr28, fr29, fr30, fr31, fr32, fr33, fr34, fr35, fr36, fr37, fr38, fr39, fr40, fr41, fr42, fr43, fr44, fr45, fr46, fr47, fr48, fr49, fr50, fr51, fr52, fr53, fr54, fr55, fr56, fr57, fr58, fr59, fr60, fr61, fr62, fr63, fr64, fr65, fr66, fr67, fr68, fr69, fr70, fr71, fw72, fw73, fw74, fw75, fw76, fw77, fw78, fw79, fw80, fw81, fw82, fw83, fw84, fw85, fw86, fw87, fw88, fw89, fw90, fw91, fw92, fw93, fw94, fw95, fw96, fr97, fr98, fr99, fr100, fr101, fr102, fr103, fr104, fr105, fr106, fr107, fr108, fr109, fr110, fr111, fr112, fr113, fr114, fr115, fr116, fr117, fr118, fr119, fr120, fr121, fr122, fr123, fr124, fr125, fr126], []⟩ wx) :
    Code.wp Tryz.prog (twinBody 2) Q ⟨#[fr0, .pointer (some ⟨gB, 0, none⟩), fr2, fr3, fr4, fr5, fr6, ov, .int .i64 (k : Int), fr9, fr10, fr11, fr12, fr13, fr14, fr15, fr16, fr17, fr18, fr19, fr20, fr21, fr22, fr23, fr24, fr25, fr26, fr27, fr28, fr29, fr30, fr31, fr32, fr33, fr34, fr35, fr36, fr37, fr38, fr39, fr40, fr41, fr42, fr43, fr44, fr45, fr46, fr47, fr48, fr49, fr50, fr51, fr52, fr53, fr54, fr55, fr56, fr57, fr58, fr59, fr60, fr61, fr62, fr63, fr64, fr65, fr66, fr67, fr68, fr69, fr70, fr71, fr72, fr73, fr74, fr75, fr76, fr77, fr78, fr79, fr80, fr81, fr82, fr83, fr84, fr85, fr86, fr87, fr88, fr89, fr90, fr91, fr92, fr93, fr94, fr95, fr96, fr97, fr98, fr99, fr100, fr101, fr102, fr103, fr104, fr105, fr106, fr107, fr108, fr109, fr110, fr111, fr112, fr113, fr114, fr115, fr116, fr117, fr118, fr119, fr120, fr121, fr122, fr123, fr124, fr125, fr126], []⟩ wr := by
  obtain ⟨i5, hi5, hz5, hs5, hb5⟩ := info_parts info_ed
  obtain ⟨i7, hi7, hz7, hs7, hb7⟩ := info_parts info_ce
  have HSo := Lib.hid hSo
  have HR := Lib.hid hR
  have HRn := Lib.hid hRn
  have HB := Lib.hid hB
  have HG := Lib.hid hG
  have HML := Lib.hid hml
  have HQe := Lib.hid hQ
  have pf := (hSo wr (Below.refl _ _)).1
  clear hSo hR hRn hB hG hml hQ
  conv => arg 2; whnf
  go_upto_region 19 with (fail)
  clear pf
  have HBz : Hid (Below wr.heap.size wr wr.drew) := Lib.hid (drew1_below _)
  refine wp_region_held_tail 17 (fun X : World => X.cell? ⟨gB, 6, none⟩ = some (.slice (some ⟨b, o, none⟩) n c) ∧ X.cell? ⟨b, o + k * 2, none⟩ = some (.string con) ∧ X.cell? ⟨b, o + k * 2 + 1, none⟩ = some (.slice Aq nq cq)) (by kernel_rfl) (by kernel_rfl) ?hSt (fun hHeld => ?qt0)
  case hSt => exact HSo.out _ HBz.out
  case qt0 =>
    generalize wr.drew = wz at HBz hHeld ⊢
    simp only [List.take_succ_cons, List.take_zero, List.drop_succ_cons, List.drop_zero]
    refine wpAnyH_take (i := 0) (v := ov) rfl (by kernel_rfl) (by kernel_rfl) (by kernel_rfl) (fun _ _ _ h => hPn _ _ _ _ h rfl) (Or.inl ⟨by rfl, ?yed_1⟩) (by assumption) ?qed_1
    case yed_1 => (intro w hSw; (try dsimp only at hSw); go_simp)
    case qed_1 =>
      (try simp only [Act.put]); (try simp only [List.setIfInBounds_toArray])
      refine wpAnyH_take (i := 1) (v := (.pointer (some ⟨gB, 6, none⟩))) rfl (by kernel_rfl) (by kernel_rfl) (by kernel_rfl) (fun _ _ _ h => hPn _ _ _ _ h rfl) (Or.inl ⟨by rfl, ?yed_2⟩) (by assumption) ?qed_2
      case yed_2 => (intro w hSw; (try dsimp only at hSw); go_simp)
      case qed_2 =>
        (try simp only [Act.put]); (try simp only [List.setIfInBounds_toArray])
        refine wpAnyH_take (i := 2) (v := (.slice (some ⟨b, o, none⟩) n c)) rfl (by kernel_rfl) (by kernel_rfl) (by kernel_rfl) (fun _ _ _ h => hPn _ _ _ _ h rfl) (Or.inl ⟨by rfl, ?yed_3⟩) (by assumption) ?qed_3
        case yed_3 => (intro w hSw; (try dsimp only at hSw); go_simp)
        case qed_3 =>
          (try simp only [Act.put]); (try simp only [List.setIfInBounds_toArray])
          refine wpAnyH_take (i := 3) (v := (.int .i64 k)) rfl (by kernel_rfl) (by kernel_rfl) (by kernel_rfl) (fun _ _ _ h => hPn _ _ _ _ h rfl) (Or.inl ⟨by rfl, ?yed_4⟩) (by assumption) ?qed_4
          case yed_4 => (intro w hSw; (try dsimp only at hSw); go_simp)
          case qed_4 =>
            (try simp only [Act.put]); (try simp only [List.setIfInBounds_toArray])
            refine wpAnyH_take (i := 4) (v := (.pointer (some ⟨b, o + k * 2, none⟩))) rfl (by kernel_rfl) (by kernel_rfl) (by kernel_rfl) (fun _ _ _ h => hPn _ _ _ _ h rfl) (Or.inl ⟨by rfl, ?yed_5⟩) (by assumption) ?qed_5
            case yed_5 => (intro w hSw; (try dsimp only at hSw); go_simp)
            case qed_5 =>
              (try simp only [Act.put]); (try simp only [List.setIfInBounds_toArray])
              refine wpAnyH_take (i := 5) (v := (.pointer (some ⟨b, o + k * 2, none⟩))) rfl (by kernel_rfl) (by kernel_rfl) (by kernel_rfl) (fun _ _ _ h => hPn _ _ _ _ h rfl) (Or.inl ⟨by rfl, ?yed_6⟩) (by assumption) ?qed_6
              case yed_6 => (intro w hSw; (try dsimp only at hSw); go_simp)
              case qed_6 =>
                (try simp only [Act.put]); (try simp only [List.setIfInBounds_toArray])
                refine wpAnyH_take (i := 6) (v := (.string con)) rfl (by kernel_rfl) (by kernel_rfl) (by kernel_rfl) (fun _ _ _ h => hPn _ _ _ _ h rfl) (Or.inl ⟨by rfl, ?yed_7⟩) (by assumption) ?qed_7
                case yed_7 => (intro w hSw; (try dsimp only at hSw); go_simp)
                case qed_7 =>
                  (try simp only [Act.put]); (try simp only [List.setIfInBounds_toArray])
                  refine wpAnyH_take (i := 8) (v := (.pointer (some ⟨gB, 6, none⟩))) rfl (by kernel_rfl) (by kernel_rfl) (by kernel_rfl) (fun _ _ _ h => hPn _ _ _ _ h rfl) (Or.inl ⟨by rfl, ?yed_8⟩) (by assumption) ?qed_8
                  case yed_8 => (intro w hSw; (try dsimp only at hSw); go_simp)
                  case qed_8 =>
                    (try simp only [Act.put]); (try simp only [List.setIfInBounds_toArray])
                    refine wpAnyH_take (i := 9) (v := (.slice (some ⟨b, o, none⟩) n c)) rfl (by kernel_rfl) (by kernel_rfl) (by kernel_rfl) (fun _ _ _ h => hPn _ _ _ _ h rfl) (Or.inl ⟨by rfl, ?yed_9⟩) (by assumption) ?qed_9
                    case yed_9 => (intro w hSw; (try dsimp only at hSw); go_simp)
                    case qed_9 =>
                      (try simp only [Act.put]); (try simp only [List.setIfInBounds_toArray])
                      refine wpAnyH_take (i := 10) (v := (.int .i64 k)) rfl (by kernel_rfl) (by kernel_rfl) (by kernel_rfl) (fun _ _ _ h => hPn _ _ _ _ h rfl) (Or.inl ⟨by rfl, ?yed_10⟩) (by assumption) ?qed_10
                      case yed_10 => (intro w hSw; (try dsimp only at hSw); go_simp)
                      case qed_10 =>
                        (try simp only [Act.put]); (try simp only [List.setIfInBounds_toArray])
                        refine wpAnyH_take (i := 11) (v := (.pointer (some ⟨b, o + k * 2, none⟩))) rfl (by kernel_rfl) (by kernel_rfl) (by kernel_rfl) (fun _ _ _ h => hPn _ _ _ _ h rfl) (Or.inl ⟨by rfl, ?yed_11⟩) (by assumption) ?qed_11
                        case yed_11 => (intro w hSw; (try dsimp only at hSw); go_simp)
                        case qed_11 =>
                          (try simp only [Act.put]); (try simp only [List.setIfInBounds_toArray])
                          refine wpAnyH_take (i := 12) (v := (.pointer (some ⟨b, o + k * 2 + 1, none⟩))) rfl (by kernel_rfl) (by kernel_rfl) (by kernel_rfl) (fun _ _ _ h => hPn _ _ _ _ h rfl) (Or.inl ⟨by rfl, ?yed_12⟩) (by assumption) ?qed_12
                          case yed_12 => (intro w hSw; (try dsimp only at hSw); go_simp)
                          case qed_12 =>
                            (try simp only [Act.put]); (try simp only [List.setIfInBounds_toArray])
                            refine wpAnyH_take (i := 13) (v := (.slice Aq nq cq)) rfl (by kernel_rfl) (by kernel_rfl) (by kernel_rfl) (fun _ _ _ h => hPn _ _ _ _ h rfl) (Or.inl ⟨by rfl, ?yed_13⟩) (by assumption) ?qed_13
                            case yed_13 => (intro w hSw; (try dsimp only at hSw); go_simp)
                            case qed_13 =>
                              (try simp only [Act.put]); (try simp only [List.setIfInBounds_toArray])
                              refine wpAnyH_ready (rs := [7]) (by kernel_rfl) (by simp) ?_
                              refine AllReadyH.cons rfl (fun K hK => ?sed_14) ?med_14
                              case sed_14 =>
                                (refine step_empty _ (by rfl) 74 (by go_simp) ?_; intro g7 Y7 hx7 hb7 hs7; have HU := Lib.hid hx7; have HG7 := Lib.hid (Nat.le_trans HBz.out.size hs7); replace HBz := Lib.hid (HBz.out.trans (hb7.mono HBz.out.size)); clear hx7 hb7 hs7)
                                refine hK.out _ _ ?ked_14 (fun hHeld => ?qed_14)
                                case ked_14 => ((try dsimp only); exact HSo.out _ HBz.out)
                                case qed_14 =>
                                  clear hK K
                                  (try simp only [Act.put]); (try simp only [List.setIfInBounds_toArray])
                                  refine wpAnyH_ready (rs := [14]) (by kernel_rfl) (by simp) ?_
                                  refine AllReadyH.cons rfl (fun K hK => ?sed_15) ?med_15
                                  case sed_15 =>
                                    (refine step_appN (by rfl) (.tmp 86) (.tmp 92) _ (by rfl) 74 i7 _ 3 40 Tryz.underlying53 hi7 hz7 hs7 hb7 rfl (by omega) (by go_simp) HBz.out HU.out HG7.out (by go_simp) (Row.below (Row.mono HR.out (Nat.le_refl _) hhw) HBz.out) (ceCells_one _) (by unfold maxLen; omega) (by omega) ?_; intro A1' c1' Y1 ho1 hb1; have HO := Lib.hid (own_mono ho1 HB.out.size); have HO' := Lib.hid ho1; replace HBz := Lib.hid hb1; clear ho1 hb1)
                                    refine hK.out _ _ ?ked_15 (fun hHeld => ?qed_15)
                                    case ked_15 => ((try dsimp only); exact HSo.out _ HBz.out)
                                    case qed_15 =>
                                      clear hK K
                                      (try simp only [Act.put]); (try simp only [List.setIfInBounds_toArray])
                                      refine wpAnyH_take (i := 15) (v := (.agg #[.string con, .slice A1' nq c1'])) rfl (by kernel_rfl) (by kernel_rfl) (by kernel_rfl) (fun _ _ _ h => hPn _ _ _ _ h rfl) (Or.inl ⟨by rfl, ?yed_16⟩) (by assumption) ?qed_16
                                      case yed_16 => (intro w hSw; (try dsimp only at hSw); go_simp)
                                      case qed_16 =>
                                        (try simp only [Act.put]); (try simp only [List.setIfInBounds_toArray])
                                        refine wpAnyH_ready (rs := [16]) (by kernel_rfl) (by simp) ?_
                                        refine AllReadyH.cons rfl (fun K hK => ?sed_17) ?med_17
                                        case sed_17 =>
                                          (refine step_mk1 _ (by rfl) 55 #[.string con, .slice A1' nq c1'] (by go_simp) ?_; intro g8 Y8 hx8 hb8 hs8; have HU8 := Lib.hid hx8; replace HO := Lib.hid (own_after HO.out hb8); replace HO' := Lib.hid (own_after HO'.out hb8); replace HBz := Lib.hid (HBz.out.trans (hb8.mono HBz.out.size)); clear hx8 hb8 hs8)
                                          refine hK.out _ _ ?ked_17 (fun hHeld => ?qed_17)
                                          case ked_17 => ((try dsimp only); exact HSo.out _ HBz.out)
                                          case qed_17 =>
                                            clear hK K
                                            (try simp only [Act.put]); (try simp only [List.setIfInBounds_toArray])
                                            refine wpAnyH_done (by kernel_rfl) ?_ _
                                            clear hHeld
                                            have HGz := Lib.hid (HG.out.after edOK HBz.out)
                                            have HBa := Lib.hid (HB.out.trans (HBz.out.mono HB.out.size))
                                            have HRw : Hid (Row Y8 g8 (g8 + 1) 2 (some ⟨g8, 0, none⟩) 1 1 [.string con, .slice A1' nq c1']) := Lib.hid (row_blk HU8.out rfl (Nat.le_refl _) (by unfold maxLen; omega))
                                            show wpList _ _ _ _ _ _
                                            go_wp2_with (at_builtin; with_reducible show wpList _ _ _ (⟨some 96, _, _, _, _, _⟩ :: _) _ _; go_must (refine wpList_app (o := ⟨some 96, _, _, _, _, _⟩) _ rfl (.tmp 79) (.tmp 95) _ rfl X0.heap.size 55 i5 _ 2 40 Tryz.underlying26 hi5 hz5 hs5 hb5 rfl (by omega) ov m.length (m.flatMap rowC) (by go_simp) HGz.out.own g8 (g8 + 1) (some ⟨g8, 0, none⟩) 1 1 [.string con, .slice A1' nq c1'] (by go_simp) HRw.out (row_one con A1' nq c1') (by have := HML.out; unfold maxLen; omega) (by have := HML.out; omega) HBa.out.size ?_); go_must (intro v2 w3 hown2 hgr2 _; have HB2 := Lib.hid (below_grows HBa.out hgr2 HGz.out.own (Nat.le_refl _)); have HG2 := Lib.hid (GL.push (p := (⟨con, cells⟩, ⟨A1', nq, c1'⟩)) HGz.out edOK hgr2 hown2 ⟨HRn.out, HO.out⟩ HB.out.size (fun g hg => rowLt (HG.out.leaf g hg)) ⟨HRn.out, HO'.out⟩); clear hown2 hgr2))
                                            exact HQe.out _ _ _ _ _ (by go_num) _ _ _ _ _ _ _ _ _ _ _ _ _ _ _ _ _ _ _ _ _ _ _ _ _ HB2.out HG2.out
                                        case med_17 =>
                                          exact AllReadyH.nil
                                  case med_15 =>
                                    exact AllReadyH.nil
                              case med_14 =>
                                exact AllReadyH.nil
end Go.Proofs.YtilemieknfdjnaaGreat

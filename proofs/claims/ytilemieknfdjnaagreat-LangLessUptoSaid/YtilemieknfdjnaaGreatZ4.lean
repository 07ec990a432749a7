/-
  WALKS: slices.IndexFunc and slices.ContainsFunc, at a function value that tells yes or no of each element.
-/
import Derived.Test.YtilemieknfdjnaaGreatZ3
namespace Go.Proofs.YtilemieknfdjnaaGreat
open Go Go.RowKit Go.Sort
set_option linter.unusedVariables false
def strC (s : ByteArray) : List Value := [.string s]
def lsC (q : Sl × List (SideD × Sl)) : List Value := [.slice q.1.A q.1.n q.1.c]
/-- a function value that tells yes or no of each element -/
structure Tells {α : Type} (w : World) (F : FuncId) (caps : Array Value) (V : α → Value) (l : List α) (b : α → Bool) : Prop where
  enters : ∀ args X, Sem.run Tryz.prog (callFunc F args) X = .ok (.enter F args) X
  call : ∀ X, Below w.heap.size w X → ∀ q ∈ l, Calls Tryz.prog F (#[V q] ++ caps) X (Ret X (.bool (b q)))
theorem Tells.after {α : Type} {w w' : World} {F : FuncId} {caps : Array Value} {V : α → Value} {l : List α} {b : α → Bool} (h : Tells w F caps V l b) (hb : Below w.heap.size w w') : Tells w' F caps V l b := ⟨h.enters, fun X hX q hq => h.call X (hb.trans (hX.mono hb.size)) q hq⟩
theorem any_take {α : Type} {l : List α} {b : α → Bool} {k : Nat} {x : α} (h : (l.take k).any b = false) (hx : l[k]? = some x) (hb : b x = false) : (l.take (k + 1)).any b = false := by
  rw [List.take_add_one, hx, List.any_append, h]; simp [hb]
theorem any_at {α : Type} {l : List α} {b : α → Bool} {k : Nat} {x : α} (hx : l[k]? = some x) (hb : b x = true) : l.any b = true := List.any_eq_true.2 ⟨x, List.mem_of_getElem? hx, hb⟩
/-- a place, or none, as l tells -/
def IxIs (w : World) (y : Bool) (e : Ending) (w' : World) : Prop := ∃ k : Int, e = .returned (.int .i64 k) ∧ decide (0 ≤ k) = y ∧ Below w.heap.size w w'
set_option maxRecDepth 20000 in
set_option maxHeartbeats 1600000 in
theorem index_str (w : World) (hi : Nat) (A : Option Addr) (n c : Nat) (l : List ByteArray) (h : Row w 0 hi 1 A n c (l.flatMap strC)) (hh : hi ≤ w.heap.size) (F : FuncId) (caps : Array Value) (bf : ByteArray → Bool) (HF : Tells w F caps (fun q : ByteArray => Value.string q) l bf) :
    Calls Tryz.prog 125 #[.slice A n c, .func (.func F) #[] caps] w (IxIs w (l.any bf)) := by
  have hc := h.2.2.1
  have hnc := h.2.1
  have hln : l.length = n := by have := h.1; rw [flatN_len (f := strC) (s := 1) (fun _ => rfl)] at this; omega
  have HL := Lib.hid hln
  unfold maxLen at hc
  have hen := HF.enters
  have HFF := Lib.hid HF
  clear hln HF
  go_enter Tryz.func125, Tryz.ntmps125
  go_wp2_with fail
  go_loopw [8] (fun i wr => ∃ k : Nat, k ≤ n ∧ i = .int .i64 k ∧ Hid (Below w.heap.size w wr) ∧ Hid ((l.take k).any bf = false)) (fun i _ => n - (intOf i).toNat)
  case atStart => exact ⟨0, Nat.zero_le _, rfl, Lib.hid (Below.refl _ _), Lib.hid (by simp)⟩
  case round =>
    obtain ⟨k, hk, rfl, HB, HT⟩ := hrel
    rename World => wr
    by_cases hlt : k < n
    · obtain ⟨b, o, rfl, _, hb, hcell⟩ := h.at_ (by omega)
      obtain ⟨q, hq⟩ : ∃ q, l[k]? = some q := ⟨l[k]'(by have := HL.out; omega), List.getElem?_eq_getElem _⟩
      have c0 := (HB.out.cell (p := ⟨b, _, none⟩) (Nat.lt_of_lt_of_le hb hh)).trans (hcell (k * 1 + 0) _ ((flatN_get (f := strC) (s := 1) (fun _ => rfl) l k q hq 0 (by omega)).trans rfl))
      simp only [Nat.mul_one, Nat.add_zero] at c0
      have HQ := Lib.hid hq
      have HCA : Hid (Calls Tryz.prog F (#[Value.string q] ++ caps) wr (Ret wr (.bool (bf q)))) := Lib.hid (HFF.out.call wr HB.out q (List.mem_of_getElem? hq))
      clear hcell hq
      cases d1 : bf q with
      | true =>
        have HX : Hid (l.any bf = true) := Lib.hid (any_at HQ.out d1)
        have HD := Lib.hid d1
        clear d1 h
        go_wp2_with ((with_reducible refine HCA.out.mono ?_); go_must (rintro e w2 ⟨rfl, hb2⟩; rw [HD.out]; have HB2 := Lib.hid (HB.out.trans (hb2.mono HB.out.size)); clear hb2))
        go_ret
        exact ⟨k, rfl, by rw [HX.out]; simp, HB2.out⟩
      | false =>
        have HX : Hid ((l.take (k + 1)).any bf = false) := Lib.hid (any_take HT.out HQ.out d1)
        have HD := Lib.hid d1
        clear d1
        go_wp2_with ((with_reducible refine HCA.out.mono ?_); go_must (rintro e w2 ⟨rfl, hb2⟩; rw [HD.out]; have HB2 := Lib.hid (HB.out.trans (hb2.mono HB.out.size)); clear hb2))
        go_roundw
        case measure => simp only [intOf]; omega
        case rel => exact ⟨k + 1, by omega, by simp, HB2, HX⟩
    · have hkn : k = n := by omega
      subst hkn
      have HX : Hid (l.any bf = false) := Lib.hid (by have := HT.out; rwa [List.take_of_length_le (by have := HL.out; omega)] at this)
      clear h
      go_wp2_with fail
      go_ret
      exact ⟨-1, rfl, by rw [HX.out]; rfl, HB.out⟩
set_option maxHeartbeats 400000 in
theorem contains_str (w : World) (hi : Nat) (A : Option Addr) (n c : Nat) (l : List ByteArray) (h : Row w 0 hi 1 A n c (l.flatMap strC)) (hh : hi ≤ w.heap.size) (F : FuncId) (caps : Array Value) (bf : ByteArray → Bool) (HF : Tells w F caps (fun q : ByteArray => Value.string q) l bf) :
    Calls Tryz.prog 90 #[.slice A n c, .func (.func F) #[] caps] w (Ret w (.bool (l.any bf))) := by
  have HI := Lib.hid (index_str w hi A n c l h hh F caps bf HF)
  generalize l.any bf = y at HI
  clear h HF
  go_enter Tryz.func90, Tryz.ntmps90
  go_wp2_with (go_at_call 125; go_must (refine HI.out.mono ?_; rintro e w2 ⟨k, rfl, hk, hb2⟩; have HK := Lib.hid hk; have HB2 := Lib.hid hb2; clear hk hb2))
  go_ret
  exact ret_b HK.out.symm rfl HB2.out
set_option maxRecDepth 20000 in
set_option maxHeartbeats 1600000 in
theorem index_con (w : World) (hi : Nat) (A : Option Addr) (n c : Nat) (l : List (ConD × Leaf)) (h : Row w 0 hi 6 A n c (l.flatMap conC)) (hh : hi ≤ w.heap.size) (F : FuncId) (caps : Array Value) (bf : (ConD × Leaf) → Bool) (HF : Tells w F caps (fun q : (ConD × Leaf) => .agg #[.string q.1.name, .string q.1.super, .bool q.1.abs, .slice q.2.p.A q.2.p.n q.2.p.c, .slice q.2.k.A q.2.k.n q.2.k.c, .slice q.2.r.A q.2.r.n q.2.r.c]) l bf) :
    Calls Tryz.prog 126 #[.slice A n c, .func (.func F) #[] caps] w (IxIs w (l.any bf)) := by
  have hc := h.2.2.1
  have hnc := h.2.1
  have hln : l.length = n := by have := h.1; rw [flatN_len (f := conC) (s := 6) (fun _ => rfl)] at this; omega
  have HL := Lib.hid hln
  unfold maxLen at hc
  have hen := HF.enters
  have HFF := Lib.hid HF
  clear hln HF
  go_enter Tryz.func126, Tryz.ntmps126
  go_wp2_with fail
  go_loopw [8] (fun i wr => ∃ k : Nat, k ≤ n ∧ i = .int .i64 k ∧ Hid (Below w.heap.size w wr) ∧ Hid ((l.take k).any bf = false)) (fun i _ => n - (intOf i).toNat)
  case atStart => exact ⟨0, Nat.zero_le _, rfl, Lib.hid (Below.refl _ _), Lib.hid (by simp)⟩
  case round =>
    obtain ⟨k, hk, rfl, HB, HT⟩ := hrel
    rename World => wr
    by_cases hlt : k < n
    · obtain ⟨b, o, rfl, _, hb, hcell⟩ := h.at_ (by omega)
      obtain ⟨q, hq⟩ : ∃ q, l[k]? = some q := ⟨l[k]'(by have := HL.out; omega), List.getElem?_eq_getElem _⟩
      have c0 := (HB.out.cell (p := ⟨b, _, none⟩) (Nat.lt_of_lt_of_le hb hh)).trans (hcell (k * 6 + 0) _ ((flatN_get (f := conC) (s := 6) (fun _ => rfl) l k q hq 0 (by omega)).trans rfl))
      simp only [Nat.add_zero] at c0
      have c1 := (HB.out.cell (p := ⟨b, _, none⟩) (Nat.lt_of_lt_of_le hb hh)).trans (hcell (k * 6 + 1) _ ((flatN_get (f := conC) (s := 6) (fun _ => rfl) l k q hq 1 (by omega)).trans rfl))
      rw [show o + (k * 6 + 1) = o + k * 6 + 1 from by omega] at c1
      have c2 := (HB.out.cell (p := ⟨b, _, none⟩) (Nat.lt_of_lt_of_le hb hh)).trans (hcell (k * 6 + 2) _ ((flatN_get (f := conC) (s := 6) (fun _ => rfl) l k q hq 2 (by omega)).trans rfl))
      rw [show o + (k * 6 + 2) = o + k * 6 + 2 from by omega] at c2
      have c3 := (HB.out.cell (p := ⟨b, _, none⟩) (Nat.lt_of_lt_of_le hb hh)).trans (hcell (k * 6 + 3) _ ((flatN_get (f := conC) (s := 6) (fun _ => rfl) l k q hq 3 (by omega)).trans rfl))
      rw [show o + (k * 6 + 3) = o + k * 6 + 3 from by omega] at c3
      have c4 := (HB.out.cell (p := ⟨b, _, none⟩) (Nat.lt_of_lt_of_le hb hh)).trans (hcell (k * 6 + 4) _ ((flatN_get (f := conC) (s := 6) (fun _ => rfl) l k q hq 4 (by omega)).trans rfl))
      rw [show o + (k * 6 + 4) = o + k * 6 + 4 from by omega] at c4
      have c5 := (HB.out.cell (p := ⟨b, _, none⟩) (Nat.lt_of_lt_of_le hb hh)).trans (hcell (k * 6 + 5) _ ((flatN_get (f := conC) (s := 6) (fun _ => rfl) l k q hq 5 (by omega)).trans rfl))
      rw [show o + (k * 6 + 5) = o + k * 6 + 5 from by omega] at c5
      have HQ := Lib.hid hq
      have HCA : Hid (Calls Tryz.prog F (#[.agg #[.string q.1.name, .string q.1.super, .bool q.1.abs, .slice q.2.p.A q.2.p.n q.2.p.c, .slice q.2.k.A q.2.k.n q.2.k.c, .slice q.2.r.A q.2.r.n q.2.r.c]] ++ caps) wr (Ret wr (.bool (bf q)))) := Lib.hid (HFF.out.call wr HB.out q (List.mem_of_getElem? hq))
      clear hcell hq
      cases d1 : bf q with
      | true =>
        have HX : Hid (l.any bf = true) := Lib.hid (any_at HQ.out d1)
        have HD := Lib.hid d1
        clear d1 h
        go_wp2_with ((with_reducible refine HCA.out.mono ?_); go_must (rintro e w2 ⟨rfl, hb2⟩; rw [HD.out]; have HB2 := Lib.hid (HB.out.trans (hb2.mono HB.out.size)); clear hb2))
        go_ret
        exact ⟨k, rfl, by rw [HX.out]; simp, HB2.out⟩
      | false =>
        have HX : Hid ((l.take (k + 1)).any bf = false) := Lib.hid (any_take HT.out HQ.out d1)
        have HD := Lib.hid d1
        clear d1
        go_wp2_with ((with_reducible refine HCA.out.mono ?_); go_must (rintro e w2 ⟨rfl, hb2⟩; rw [HD.out]; have HB2 := Lib.hid (HB.out.trans (hb2.mono HB.out.size)); clear hb2))
        go_roundw
        case measure => simp only [intOf]; omega
        case rel => exact ⟨k + 1, by omega, by simp, HB2, HX⟩
    · have hkn : k = n := by omega
      subst hkn
      have HX : Hid (l.any bf = false) := Lib.hid (by have := HT.out; rwa [List.take_of_length_le (by have := HL.out; omega)] at this)
      clear h
      go_wp2_with fail
      go_ret
      exact ⟨-1, rfl, by rw [HX.out]; rfl, HB.out⟩
set_option maxHeartbeats 400000 in
theorem contains_con (w : World) (hi : Nat) (A : Option Addr) (n c : Nat) (l : List (ConD × Leaf)) (h : Row w 0 hi 6 A n c (l.flatMap conC)) (hh : hi ≤ w.heap.size) (F : FuncId) (caps : Array Value) (bf : (ConD × Leaf) → Bool) (HF : Tells w F caps (fun q : (ConD × Leaf) => .agg #[.string q.1.name, .string q.1.super, .bool q.1.abs, .slice q.2.p.A q.2.p.n q.2.p.c, .slice q.2.k.A q.2.k.n q.2.k.c, .slice q.2.r.A q.2.r.n q.2.r.c]) l bf) :
    Calls Tryz.prog 91 #[.slice A n c, .func (.func F) #[] caps] w (Ret w (.bool (l.any bf))) := by
  have HI := Lib.hid (index_con w hi A n c l h hh F caps bf HF)
  generalize l.any bf = y at HI
  clear h HF
  go_enter Tryz.func91, Tryz.ntmps91
  go_wp2_with (go_at_call 126; go_must (refine HI.out.mono ?_; rintro e w2 ⟨k, rfl, hk, hb2⟩; have HK := Lib.hid hk; have HB2 := Lib.hid hb2; clear hk hb2))
  go_ret
  exact ret_b HK.out.symm rfl HB2.out
set_option maxRecDepth 20000 in
set_option maxHeartbeats 1600000 in
theorem index_pd (w : World) (hi : Nat) (A : Option Addr) (n c : Nat) (l : List PropD) (h : Row w 0 hi 2 A n c (l.flatMap pdC)) (hh : hi ≤ w.heap.size) (F : FuncId) (caps : Array Value) (bf : PropD → Bool) (HF : Tells w F caps (fun q : PropD => .agg #[.string q.name, .int .i64 q.typ]) l bf) :
    Calls Tryz.prog 141 #[.slice A n c, .func (.func F) #[] caps] w (IxIs w (l.any bf)) := by
  have hc := h.2.2.1
  have hnc := h.2.1
  have hln : l.length = n := by have := h.1; rw [flatN_len (f := pdC) (s := 2) (fun _ => rfl)] at this; omega
  have HL := Lib.hid hln
  unfold maxLen at hc
  have hen := HF.enters
  have HFF := Lib.hid HF
  clear hln HF
  go_enter Tryz.func141, Tryz.ntmps141
  go_wp2_with fail
  go_loopw [8] (fun i wr => ∃ k : Nat, k ≤ n ∧ i = .int .i64 k ∧ Hid (Below w.heap.size w wr) ∧ Hid ((l.take k).any bf = false)) (fun i _ => n - (intOf i).toNat)
  case atStart => exact ⟨0, Nat.zero_le _, rfl, Lib.hid (Below.refl _ _), Lib.hid (by simp)⟩
  case round =>
    obtain ⟨k, hk, rfl, HB, HT⟩ := hrel
    rename World => wr
    by_cases hlt : k < n
    · obtain ⟨b, o, rfl, _, hb, hcell⟩ := h.at_ (by omega)
      obtain ⟨q, hq⟩ : ∃ q, l[k]? = some q := ⟨l[k]'(by have := HL.out; omega), List.getElem?_eq_getElem _⟩
      have c0 := (HB.out.cell (p := ⟨b, _, none⟩) (Nat.lt_of_lt_of_le hb hh)).trans (hcell (k * 2 + 0) _ ((flatN_get (f := pdC) (s := 2) (fun _ => rfl) l k q hq 0 (by omega)).trans rfl))
      simp only [Nat.add_zero] at c0
      have c1 := (HB.out.cell (p := ⟨b, _, none⟩) (Nat.lt_of_lt_of_le hb hh)).trans (hcell (k * 2 + 1) _ ((flatN_get (f := pdC) (s := 2) (fun _ => rfl) l k q hq 1 (by omega)).trans rfl))
      rw [show o + (k * 2 + 1) = o + k * 2 + 1 from by omega] at c1
      have HQ := Lib.hid hq
      have HCA : Hid (Calls Tryz.prog F (#[.agg #[.string q.name, .int .i64 q.typ]] ++ caps) wr (Ret wr (.bool (bf q)))) := Lib.hid (HFF.out.call wr HB.out q (List.mem_of_getElem? hq))
      clear hcell hq
      cases d1 : bf q with
      | true =>
        have HX : Hid (l.any bf = true) := Lib.hid (any_at HQ.out d1)
        have HD := Lib.hid d1
        clear d1 h
        go_wp2_with ((with_reducible refine HCA.out.mono ?_); go_must (rintro e w2 ⟨rfl, hb2⟩; rw [HD.out]; have HB2 := Lib.hid (HB.out.trans (hb2.mono HB.out.size)); clear hb2))
        go_ret
        exact ⟨k, rfl, by rw [HX.out]; simp, HB2.out⟩
      | false =>
        have HX : Hid ((l.take (k + 1)).any bf = false) := Lib.hid (any_take HT.out HQ.out d1)
        have HD := Lib.hid d1
        clear d1
        go_wp2_with ((with_reducible refine HCA.out.mono ?_); go_must (rintro e w2 ⟨rfl, hb2⟩; rw [HD.out]; have HB2 := Lib.hid (HB.out.trans (hb2.mono HB.out.size)); clear hb2))
        go_roundw
        case measure => simp only [intOf]; omega
        case rel => exact ⟨k + 1, by omega, by simp, HB2, HX⟩
    · have hkn : k = n := by omega
      subst hkn
      have HX : Hid (l.any bf = false) := Lib.hid (by have := HT.out; rwa [List.take_of_length_le (by have := HL.out; omega)] at this)
      clear h
      go_wp2_with fail
      go_ret
      exact ⟨-1, rfl, by rw [HX.out]; rfl, HB.out⟩
set_option maxHeartbeats 400000 in
theorem contains_pd (w : World) (hi : Nat) (A : Option Addr) (n c : Nat) (l : List PropD) (h : Row w 0 hi 2 A n c (l.flatMap pdC)) (hh : hi ≤ w.heap.size) (F : FuncId) (caps : Array Value) (bf : PropD → Bool) (HF : Tells w F caps (fun q : PropD => .agg #[.string q.name, .int .i64 q.typ]) l bf) :
    Calls Tryz.prog 127 #[.slice A n c, .func (.func F) #[] caps] w (Ret w (.bool (l.any bf))) := by
  have HI := Lib.hid (index_pd w hi A n c l h hh F caps bf HF)
  generalize l.any bf = y at HI
  clear h HF
  go_enter Tryz.func127, Tryz.ntmps127
  go_wp2_with (go_at_call 141; go_must (refine HI.out.mono ?_; rintro e w2 ⟨k, rfl, hk, hb2⟩; have HK := Lib.hid hk; have HB2 := Lib.hid hb2; clear hk hb2))
  go_ret
  exact ret_b HK.out.symm rfl HB2.out
set_option maxRecDepth 20000 in
set_option maxHeartbeats 1600000 in
theorem index_kd (w : World) (hi : Nat) (A : Option Addr) (n c : Nat) (l : List KidD) (h : Row w 0 hi 4 A n c (l.flatMap kdC)) (hh : hi ≤ w.heap.size) (F : FuncId) (caps : Array Value) (bf : KidD → Bool) (HF : Tells w F caps (fun q : KidD => .agg #[.string q.role, .string q.con, .int .i64 q.min, .int .i64 q.max]) l bf) :
    Calls Tryz.prog 142 #[.slice A n c, .func (.func F) #[] caps] w (IxIs w (l.any bf)) := by
  have hc := h.2.2.1
  have hnc := h.2.1
  have hln : l.length = n := by have := h.1; rw [flatN_len (f := kdC) (s := 4) (fun _ => rfl)] at this; omega
  have HL := Lib.hid hln
  unfold maxLen at hc
  have hen := HF.enters
  have HFF := Lib.hid HF
  clear hln HF
  go_enter Tryz.func142, Tryz.ntmps142
  go_wp2_with fail
  go_loopw [8] (fun i wr => ∃ k : Nat, k ≤ n ∧ i = .int .i64 k ∧ Hid (Below w.heap.size w wr) ∧ Hid ((l.take k).any bf = false)) (fun i _ => n - (intOf i).toNat)
  case atStart => exact ⟨0, Nat.zero_le _, rfl, Lib.hid (Below.refl _ _), Lib.hid (by simp)⟩
  case round =>
    obtain ⟨k, hk, rfl, HB, HT⟩ := hrel
    rename World => wr
    by_cases hlt : k < n
    · obtain ⟨b, o, rfl, _, hb, hcell⟩ := h.at_ (by omega)
      obtain ⟨q, hq⟩ : ∃ q, l[k]? = some q := ⟨l[k]'(by have := HL.out; omega), List.getElem?_eq_getElem _⟩
      have c0 := (HB.out.cell (p := ⟨b, _, none⟩) (Nat.lt_of_lt_of_le hb hh)).trans (hcell (k * 4 + 0) _ ((flatN_get (f := kdC) (s := 4) (fun _ => rfl) l k q hq 0 (by omega)).trans rfl))
      simp only [Nat.add_zero] at c0
      have c1 := (HB.out.cell (p := ⟨b, _, none⟩) (Nat.lt_of_lt_of_le hb hh)).trans (hcell (k * 4 + 1) _ ((flatN_get (f := kdC) (s := 4) (fun _ => rfl) l k q hq 1 (by omega)).trans rfl))
      rw [show o + (k * 4 + 1) = o + k * 4 + 1 from by omega] at c1
      have c2 := (HB.out.cell (p := ⟨b, _, none⟩) (Nat.lt_of_lt_of_le hb hh)).trans (hcell (k * 4 + 2) _ ((flatN_get (f := kdC) (s := 4) (fun _ => rfl) l k q hq 2 (by omega)).trans rfl))
      rw [show o + (k * 4 + 2) = o + k * 4 + 2 from by omega] at c2
      have c3 := (HB.out.cell (p := ⟨b, _, none⟩) (Nat.lt_of_lt_of_le hb hh)).trans (hcell (k * 4 + 3) _ ((flatN_get (f := kdC) (s := 4) (fun _ => rfl) l k q hq 3 (by omega)).trans rfl))
      rw [show o + (k * 4 + 3) = o + k * 4 + 3 from by omega] at c3
      have HQ := Lib.hid hq
      have HCA : Hid (Calls Tryz.prog F (#[.agg #[.string q.role, .string q.con, .int .i64 q.min, .int .i64 q.max]] ++ caps) wr (Ret wr (.bool (bf q)))) := Lib.hid (HFF.out.call wr HB.out q (List.mem_of_getElem? hq))
      clear hcell hq
      cases d1 : bf q with
      | true =>
        have HX : Hid (l.any bf = true) := Lib.hid (any_at HQ.out d1)
        have HD := Lib.hid d1
        clear d1 h
        go_wp2_with ((with_reducible refine HCA.out.mono ?_); go_must (rintro e w2 ⟨rfl, hb2⟩; rw [HD.out]; have HB2 := Lib.hid (HB.out.trans (hb2.mono HB.out.size)); clear hb2))
        go_ret
        exact ⟨k, rfl, by rw [HX.out]; simp, HB2.out⟩
      | false =>
        have HX : Hid ((l.take (k + 1)).any bf = false) := Lib.hid (any_take HT.out HQ.out d1)
        have HD := Lib.hid d1
        clear d1
        go_wp2_with ((with_reducible refine HCA.out.mono ?_); go_must (rintro e w2 ⟨rfl, hb2⟩; rw [HD.out]; have HB2 := Lib.hid (HB.out.trans (hb2.mono HB.out.size)); clear hb2))
        go_roundw
        case measure => simp only [intOf]; omega
        case rel => exact ⟨k + 1, by omega, by simp, HB2, HX⟩
    · have hkn : k = n := by omega
      subst hkn
      have HX : Hid (l.any bf = false) := Lib.hid (by have := HT.out; rwa [List.take_of_length_le (by have := HL.out; omega)] at this)
      clear h
      go_wp2_with fail
      go_ret
      exact ⟨-1, rfl, by rw [HX.out]; rfl, HB.out⟩
set_option maxHeartbeats 400000 in
theorem contains_kd (w : World) (hi : Nat) (A : Option Addr) (n c : Nat) (l : List KidD) (h : Row w 0 hi 4 A n c (l.flatMap kdC)) (hh : hi ≤ w.heap.size) (F : FuncId) (caps : Array Value) (bf : KidD → Bool) (HF : Tells w F caps (fun q : KidD => .agg #[.string q.role, .string q.con, .int .i64 q.min, .int .i64 q.max]) l bf) :
    Calls Tryz.prog 128 #[.slice A n c, .func (.func F) #[] caps] w (Ret w (.bool (l.any bf))) := by
  have HI := Lib.hid (index_kd w hi A n c l h hh F caps bf HF)
  generalize l.any bf = y at HI
  clear h HF
  go_enter Tryz.func128, Tryz.ntmps128
  go_wp2_with (go_at_call 142; go_must (refine HI.out.mono ?_; rintro e w2 ⟨k, rfl, hk, hb2⟩; have HK := Lib.hid hk; have HB2 := Lib.hid hb2; clear hk hb2))
  go_ret
  exact ret_b HK.out.symm rfl HB2.out
set_option maxRecDepth 20000 in
set_option maxHeartbeats 1600000 in
theorem index_rd (w : World) (hi : Nat) (A : Option Addr) (n c : Nat) (l : List RefD) (h : Row w 0 hi 3 A n c (l.flatMap rdC)) (hh : hi ≤ w.heap.size) (F : FuncId) (caps : Array Value) (bf : RefD → Bool) (HF : Tells w F caps (fun q : RefD => .agg #[.string q.role, .string q.con, .bool q.need]) l bf) :
    Calls Tryz.prog 143 #[.slice A n c, .func (.func F) #[] caps] w (IxIs w (l.any bf)) := by
  have hc := h.2.2.1
  have hnc := h.2.1
  have hln : l.length = n := by have := h.1; rw [flatN_len (f := rdC) (s := 3) (fun _ => rfl)] at this; omega
  have HL := Lib.hid hln
  unfold maxLen at hc
  have hen := HF.enters
  have HFF := Lib.hid HF
  clear hln HF
  go_enter Tryz.func143, Tryz.ntmps143
  go_wp2_with fail
  go_loopw [8] (fun i wr => ∃ k : Nat, k ≤ n ∧ i = .int .i64 k ∧ Hid (Below w.heap.size w wr) ∧ Hid ((l.take k).any bf = false)) (fun i _ => n - (intOf i).toNat)
  case atStart => exact ⟨0, Nat.zero_le _, rfl, Lib.hid (Below.refl _ _), Lib.hid (by simp)⟩
  case round =>
    obtain ⟨k, hk, rfl, HB, HT⟩ := hrel
    rename World => wr
    by_cases hlt : k < n
    · obtain ⟨b, o, rfl, _, hb, hcell⟩ := h.at_ (by omega)
      obtain ⟨q, hq⟩ : ∃ q, l[k]? = some q := ⟨l[k]'(by have := HL.out; omega), List.getElem?_eq_getElem _⟩
      have c0 := (HB.out.cell (p := ⟨b, _, none⟩) (Nat.lt_of_lt_of_le hb hh)).trans (hcell (k * 3 + 0) _ ((flatN_get (f := rdC) (s := 3) (fun _ => rfl) l k q hq 0 (by omega)).trans rfl))
      simp only [Nat.add_zero] at c0
      have c1 := (HB.out.cell (p := ⟨b, _, none⟩) (Nat.lt_of_lt_of_le hb hh)).trans (hcell (k * 3 + 1) _ ((flatN_get (f := rdC) (s := 3) (fun _ => rfl) l k q hq 1 (by omega)).trans rfl))
      rw [show o + (k * 3 + 1) = o + k * 3 + 1 from by omega] at c1
      have c2 := (HB.out.cell (p := ⟨b, _, none⟩) (Nat.lt_of_lt_of_le hb hh)).trans (hcell (k * 3 + 2) _ ((flatN_get (f := rdC) (s := 3) (fun _ => rfl) l k q hq 2 (by omega)).trans rfl))
      rw [show o + (k * 3 + 2) = o + k * 3 + 2 from by omega] at c2
      have HQ := Lib.hid hq
      have HCA : Hid (Calls Tryz.prog F (#[.agg #[.string q.role, .string q.con, .bool q.need]] ++ caps) wr (Ret wr (.bool (bf q)))) := Lib.hid (HFF.out.call wr HB.out q (List.mem_of_getElem? hq))
      clear hcell hq
      cases d1 : bf q with
      | true =>
        have HX : Hid (l.any bf = true) := Lib.hid (any_at HQ.out d1)
        have HD := Lib.hid d1
        clear d1 h
        go_wp2_with ((with_reducible refine HCA.out.mono ?_); go_must (rintro e w2 ⟨rfl, hb2⟩; rw [HD.out]; have HB2 := Lib.hid (HB.out.trans (hb2.mono HB.out.size)); clear hb2))
        go_ret
        exact ⟨k, rfl, by rw [HX.out]; simp, HB2.out⟩
      | false =>
        have HX : Hid ((l.take (k + 1)).any bf = false) := Lib.hid (any_take HT.out HQ.out d1)
        have HD := Lib.hid d1
        clear d1
        go_wp2_with ((with_reducible refine HCA.out.mono ?_); go_must (rintro e w2 ⟨rfl, hb2⟩; rw [HD.out]; have HB2 := Lib.hid (HB.out.trans (hb2.mono HB.out.size)); clear hb2))
        go_roundw
        case measure => simp only [intOf]; omega
        case rel => exact ⟨k + 1, by omega, by simp, HB2, HX⟩
    · have hkn : k = n := by omega
      subst hkn
      have HX : Hid (l.any bf = false) := Lib.hid (by have := HT.out; rwa [List.take_of_length_le (by have := HL.out; omega)] at this)
      clear h
      go_wp2_with fail
      go_ret
      exact ⟨-1, rfl, by rw [HX.out]; rfl, HB.out⟩
set_option maxHeartbeats 400000 in
theorem contains_rd (w : World) (hi : Nat) (A : Option Addr) (n c : Nat) (l : List RefD) (h : Row w 0 hi 3 A n c (l.flatMap rdC)) (hh : hi ≤ w.heap.size) (F : FuncId) (caps : Array Value) (bf : RefD → Bool) (HF : Tells w F caps (fun q : RefD => .agg #[.string q.role, .string q.con, .bool q.need]) l bf) :
    Calls Tryz.prog 129 #[.slice A n c, .func (.func F) #[] caps] w (Ret w (.bool (l.any bf))) := by
  have HI := Lib.hid (index_rd w hi A n c l h hh F caps bf HF)
  generalize l.any bf = y at HI
  clear h HF
  go_enter Tryz.func129, Tryz.ntmps129
  go_wp2_with (go_at_call 143; go_must (refine HI.out.mono ?_; rintro e w2 ⟨k, rfl, hk, hb2⟩; have HK := Lib.hid hk; have HB2 := Lib.hid hb2; clear hk hb2))
  go_ret
  exact ret_b HK.out.symm rfl HB2.out
set_option maxRecDepth 20000 in
set_option maxHeartbeats 1600000 in
theorem index_ru (w : World) (hi : Nat) (A : Option Addr) (n c : Nat) (l : List RuleD) (h : Row w 0 hi 4 A n c (l.flatMap ruC)) (hh : hi ≤ w.heap.size) (F : FuncId) (caps : Array Value) (bf : RuleD → Bool) (HF : Tells w F caps (fun q : RuleD => .agg #[.string q.con, .string q.name, .bool q.scope, .string q.expr]) l bf) :
    Calls Tryz.prog 130 #[.slice A n c, .func (.func F) #[] caps] w (IxIs w (l.any bf)) := by
  have hc := h.2.2.1
  have hnc := h.2.1
  have hln : l.length = n := by have := h.1; rw [flatN_len (f := ruC) (s := 4) (fun _ => rfl)] at this; omega
  have HL := Lib.hid hln
  unfold maxLen at hc
  have hen := HF.enters
  have HFF := Lib.hid HF
  clear hln HF
  go_enter Tryz.func130, Tryz.ntmps130
  go_wp2_with fail
  go_loopw [8] (fun i wr => ∃ k : Nat, k ≤ n ∧ i = .int .i64 k ∧ Hid (Below w.heap.size w wr) ∧ Hid ((l.take k).any bf = false)) (fun i _ => n - (intOf i).toNat)
  case atStart => exact ⟨0, Nat.zero_le _, rfl, Lib.hid (Below.refl _ _), Lib.hid (by simp)⟩
  case round =>
    obtain ⟨k, hk, rfl, HB, HT⟩ := hrel
    rename World => wr
    by_cases hlt : k < n
    · obtain ⟨b, o, rfl, _, hb, hcell⟩ := h.at_ (by omega)
      obtain ⟨q, hq⟩ : ∃ q, l[k]? = some q := ⟨l[k]'(by have := HL.out; omega), List.getElem?_eq_getElem _⟩
      have c0 := (HB.out.cell (p := ⟨b, _, none⟩) (Nat.lt_of_lt_of_le hb hh)).trans (hcell (k * 4 + 0) _ ((flatN_get (f := ruC) (s := 4) (fun _ => rfl) l k q hq 0 (by omega)).trans rfl))
      simp only [Nat.add_zero] at c0
      have c1 := (HB.out.cell (p := ⟨b, _, none⟩) (Nat.lt_of_lt_of_le hb hh)).trans (hcell (k * 4 + 1) _ ((flatN_get (f := ruC) (s := 4) (fun _ => rfl) l k q hq 1 (by omega)).trans rfl))
      rw [show o + (k * 4 + 1) = o + k * 4 + 1 from by omega] at c1
      have c2 := (HB.out.cell (p := ⟨b, _, none⟩) (Nat.lt_of_lt_of_le hb hh)).trans (hcell (k * 4 + 2) _ ((flatN_get (f := ruC) (s := 4) (fun _ => rfl) l k q hq 2 (by omega)).trans rfl))
      rw [show o + (k * 4 + 2) = o + k * 4 + 2 from by omega] at c2
      have c3 := (HB.out.cell (p := ⟨b, _, none⟩) (Nat.lt_of_lt_of_le hb hh)).trans (hcell (k * 4 + 3) _ ((flatN_get (f := ruC) (s := 4) (fun _ => rfl) l k q hq 3 (by omega)).trans rfl))
      rw [show o + (k * 4 + 3) = o + k * 4 + 3 from by omega] at c3
      have HQ := Lib.hid hq
      have HCA : Hid (Calls Tryz.prog F (#[.agg #[.string q.con, .string q.name, .bool q.scope, .string q.expr]] ++ caps) wr (Ret wr (.bool (bf q)))) := Lib.hid (HFF.out.call wr HB.out q (List.mem_of_getElem? hq))
      clear hcell hq
      cases d1 : bf q with
      | true =>
        have HX : Hid (l.any bf = true) := Lib.hid (any_at HQ.out d1)
        have HD := Lib.hid d1
        clear d1 h
        go_wp2_with ((with_reducible refine HCA.out.mono ?_); go_must (rintro e w2 ⟨rfl, hb2⟩; rw [HD.out]; have HB2 := Lib.hid (HB.out.trans (hb2.mono HB.out.size)); clear hb2))
        go_ret
        exact ⟨k, rfl, by rw [HX.out]; simp, HB2.out⟩
      | false =>
        have HX : Hid ((l.take (k + 1)).any bf = false) := Lib.hid (any_take HT.out HQ.out d1)
        have HD := Lib.hid d1
        clear d1
        go_wp2_with ((with_reducible refine HCA.out.mono ?_); go_must (rintro e w2 ⟨rfl, hb2⟩; rw [HD.out]; have HB2 := Lib.hid (HB.out.trans (hb2.mono HB.out.size)); clear hb2))
        go_roundw
        case measure => simp only [intOf]; omega
        case rel => exact ⟨k + 1, by omega, by simp, HB2, HX⟩
    · have hkn : k = n := by omega
      subst hkn
      have HX : Hid (l.any bf = false) := Lib.hid (by have := HT.out; rwa [List.take_of_length_le (by have := HL.out; omega)] at this)
      clear h
      go_wp2_with fail
      go_ret
      exact ⟨-1, rfl, by rw [HX.out]; rfl, HB.out⟩
set_option maxHeartbeats 400000 in
theorem contains_ru (w : World) (hi : Nat) (A : Option Addr) (n c : Nat) (l : List RuleD) (h : Row w 0 hi 4 A n c (l.flatMap ruC)) (hh : hi ≤ w.heap.size) (F : FuncId) (caps : Array Value) (bf : RuleD → Bool) (HF : Tells w F caps (fun q : RuleD => .agg #[.string q.con, .string q.name, .bool q.scope, .string q.expr]) l bf) :
    Calls Tryz.prog 106 #[.slice A n c, .func (.func F) #[] caps] w (Ret w (.bool (l.any bf))) := by
  have HI := Lib.hid (index_ru w hi A n c l h hh F caps bf HF)
  generalize l.any bf = y at HI
  clear h HF
  go_enter Tryz.func106, Tryz.ntmps106
  go_wp2_with (go_at_call 130; go_must (refine HI.out.mono ?_; rintro e w2 ⟨k, rfl, hk, hb2⟩; have HK := Lib.hid hk; have HB2 := Lib.hid hb2; clear hk hb2))
  go_ret
  exact ret_b HK.out.symm rfl HB2.out
set_option maxRecDepth 20000 in
set_option maxHeartbeats 1600000 in
theorem index_si (w : World) (hi : Nat) (A : Option Addr) (n c : Nat) (l : List (SideD × Sl)) (h : Row w 0 hi 4 A n c (l.flatMap sideC)) (hh : hi ≤ w.heap.size) (F : FuncId) (caps : Array Value) (bf : (SideD × Sl) → Bool) (HF : Tells w F caps (fun q : (SideD × Sl) => .agg #[.int .i64 q.1.kind, .string q.1.name, .int .i64 q.1.num, .slice q.2.A q.2.n q.2.c]) l bf) :
    Calls Tryz.prog 131 #[.slice A n c, .func (.func F) #[] caps] w (IxIs w (l.any bf)) := by
  have hc := h.2.2.1
  have hnc := h.2.1
  have hln : l.length = n := by have := h.1; rw [flatN_len (f := sideC) (s := 4) (fun _ => rfl)] at this; omega
  have HL := Lib.hid hln
  unfold maxLen at hc
  have hen := HF.enters
  have HFF := Lib.hid HF
  clear hln HF
  go_enter Tryz.func131, Tryz.ntmps131
  go_wp2_with fail
  go_loopw [8] (fun i wr => ∃ k : Nat, k ≤ n ∧ i = .int .i64 k ∧ Hid (Below w.heap.size w wr) ∧ Hid ((l.take k).any bf = false)) (fun i _ => n - (intOf i).toNat)
  case atStart => exact ⟨0, Nat.zero_le _, rfl, Lib.hid (Below.refl _ _), Lib.hid (by simp)⟩
  case round =>
    obtain ⟨k, hk, rfl, HB, HT⟩ := hrel
    rename World => wr
    by_cases hlt : k < n
    · obtain ⟨b, o, rfl, _, hb, hcell⟩ := h.at_ (by omega)
      obtain ⟨q, hq⟩ : ∃ q, l[k]? = some q := ⟨l[k]'(by have := HL.out; omega), List.getElem?_eq_getElem _⟩
      have c0 := (HB.out.cell (p := ⟨b, _, none⟩) (Nat.lt_of_lt_of_le hb hh)).trans (hcell (k * 4 + 0) _ ((flatN_get (f := sideC) (s := 4) (fun _ => rfl) l k q hq 0 (by omega)).trans rfl))
      simp only [Nat.add_zero] at c0
      have c1 := (HB.out.cell (p := ⟨b, _, none⟩) (Nat.lt_of_lt_of_le hb hh)).trans (hcell (k * 4 + 1) _ ((flatN_get (f := sideC) (s := 4) (fun _ => rfl) l k q hq 1 (by omega)).trans rfl))
      rw [show o + (k * 4 + 1) = o + k * 4 + 1 from by omega] at c1
      have c2 := (HB.out.cell (p := ⟨b, _, none⟩) (Nat.lt_of_lt_of_le hb hh)).trans (hcell (k * 4 + 2) _ ((flatN_get (f := sideC) (s := 4) (fun _ => rfl) l k q hq 2 (by omega)).trans rfl))
      rw [show o + (k * 4 + 2) = o + k * 4 + 2 from by omega] at c2
      have c3 := (HB.out.cell (p := ⟨b, _, none⟩) (Nat.lt_of_lt_of_le hb hh)).trans (hcell (k * 4 + 3) _ ((flatN_get (f := sideC) (s := 4) (fun _ => rfl) l k q hq 3 (by omega)).trans rfl))
      rw [show o + (k * 4 + 3) = o + k * 4 + 3 from by omega] at c3
      have HQ := Lib.hid hq
      have HCA : Hid (Calls Tryz.prog F (#[.agg #[.int .i64 q.1.kind, .string q.1.name, .int .i64 q.1.num, .slice q.2.A q.2.n q.2.c]] ++ caps) wr (Ret wr (.bool (bf q)))) := Lib.hid (HFF.out.call wr HB.out q (List.mem_of_getElem? hq))
      clear hcell hq
      cases d1 : bf q with
      | true =>
        have HX : Hid (l.any bf = true) := Lib.hid (any_at HQ.out d1)
        have HD := Lib.hid d1
        clear d1 h
        go_wp2_with ((with_reducible refine HCA.out.mono ?_); go_must (rintro e w2 ⟨rfl, hb2⟩; rw [HD.out]; have HB2 := Lib.hid (HB.out.trans (hb2.mono HB.out.size)); clear hb2))
        go_ret
        exact ⟨k, rfl, by rw [HX.out]; simp, HB2.out⟩
      | false =>
        have HX : Hid ((l.take (k + 1)).any bf = false) := Lib.hid (any_take HT.out HQ.out d1)
        have HD := Lib.hid d1
        clear d1
        go_wp2_with ((with_reducible refine HCA.out.mono ?_); go_must (rintro e w2 ⟨rfl, hb2⟩; rw [HD.out]; have HB2 := Lib.hid (HB.out.trans (hb2.mono HB.out.size)); clear hb2))
        go_roundw
        case measure => simp only [intOf]; omega
        case rel => exact ⟨k + 1, by omega, by simp, HB2, HX⟩
    · have hkn : k = n := by omega
      subst hkn
      have HX : Hid (l.any bf = false) := Lib.hid (by have := HT.out; rwa [List.take_of_length_le (by have := HL.out; omega)] at this)
      clear h
      go_wp2_with fail
      go_ret
      exact ⟨-1, rfl, by rw [HX.out]; rfl, HB.out⟩
set_option maxHeartbeats 400000 in
theorem contains_si (w : World) (hi : Nat) (A : Option Addr) (n c : Nat) (l : List (SideD × Sl)) (h : Row w 0 hi 4 A n c (l.flatMap sideC)) (hh : hi ≤ w.heap.size) (F : FuncId) (caps : Array Value) (bf : (SideD × Sl) → Bool) (HF : Tells w F caps (fun q : (SideD × Sl) => .agg #[.int .i64 q.1.kind, .string q.1.name, .int .i64 q.1.num, .slice q.2.A q.2.n q.2.c]) l bf) :
    Calls Tryz.prog 107 #[.slice A n c, .func (.func F) #[] caps] w (Ret w (.bool (l.any bf))) := by
  have HI := Lib.hid (index_si w hi A n c l h hh F caps bf HF)
  generalize l.any bf = y at HI
  clear h HF
  go_enter Tryz.func107, Tryz.ntmps107
  go_wp2_with (go_at_call 131; go_must (refine HI.out.mono ?_; rintro e w2 ⟨k, rfl, hk, hb2⟩; have HK := Lib.hid hk; have HB2 := Lib.hid hb2; clear hk hb2))
  go_ret
  exact ret_b HK.out.symm rfl HB2.out
set_option maxRecDepth 20000 in
set_option maxHeartbeats 1600000 in
theorem index_ed (w : World) (hi : Nat) (A : Option Addr) (n c : Nat) (l : List (RowD × Sl)) (h : Row w 0 hi 2 A n c (l.flatMap rowC)) (hh : hi ≤ w.heap.size) (F : FuncId) (caps : Array Value) (bf : (RowD × Sl) → Bool) (HF : Tells w F caps (fun q : (RowD × Sl) => .agg #[.string q.1.con, .slice q.2.A q.2.n q.2.c]) l bf) :
    Calls Tryz.prog 133 #[.slice A n c, .func (.func F) #[] caps] w (IxIs w (l.any bf)) := by
  have hc := h.2.2.1
  have hnc := h.2.1
  have hln : l.length = n := by have := h.1; rw [flatN_len (f := rowC) (s := 2) (fun _ => rfl)] at this; omega
  have HL := Lib.hid hln
  unfold maxLen at hc
  have hen := HF.enters
  have HFF := Lib.hid HF
  clear hln HF
  go_enter Tryz.func133, Tryz.ntmps133
  go_wp2_with fail
  go_loopw [8] (fun i wr => ∃ k : Nat, k ≤ n ∧ i = .int .i64 k ∧ Hid (Below w.heap.size w wr) ∧ Hid ((l.take k).any bf = false)) (fun i _ => n - (intOf i).toNat)
  case atStart => exact ⟨0, Nat.zero_le _, rfl, Lib.hid (Below.refl _ _), Lib.hid (by simp)⟩
  case round =>
    obtain ⟨k, hk, rfl, HB, HT⟩ := hrel
    rename World => wr
    by_cases hlt : k < n
    · obtain ⟨b, o, rfl, _, hb, hcell⟩ := h.at_ (by omega)
      obtain ⟨q, hq⟩ : ∃ q, l[k]? = some q := ⟨l[k]'(by have := HL.out; omega), List.getElem?_eq_getElem _⟩
      have c0 := (HB.out.cell (p := ⟨b, _, none⟩) (Nat.lt_of_lt_of_le hb hh)).trans (hcell (k * 2 + 0) _ ((flatN_get (f := rowC) (s := 2) (fun _ => rfl) l k q hq 0 (by omega)).trans rfl))
      simp only [Nat.add_zero] at c0
      have c1 := (HB.out.cell (p := ⟨b, _, none⟩) (Nat.lt_of_lt_of_le hb hh)).trans (hcell (k * 2 + 1) _ ((flatN_get (f := rowC) (s := 2) (fun _ => rfl) l k q hq 1 (by omega)).trans rfl))
      rw [show o + (k * 2 + 1) = o + k * 2 + 1 from by omega] at c1
      have HQ := Lib.hid hq
      have HCA : Hid (Calls Tryz.prog F (#[.agg #[.string q.1.con, .slice q.2.A q.2.n q.2.c]] ++ caps) wr (Ret wr (.bool (bf q)))) := Lib.hid (HFF.out.call wr HB.out q (List.mem_of_getElem? hq))
      clear hcell hq
      cases d1 : bf q with
      | true =>
        have HX : Hid (l.any bf = true) := Lib.hid (any_at HQ.out d1)
        have HD := Lib.hid d1
        clear d1 h
        go_wp2_with ((with_reducible refine HCA.out.mono ?_); go_must (rintro e w2 ⟨rfl, hb2⟩; rw [HD.out]; have HB2 := Lib.hid (HB.out.trans (hb2.mono HB.out.size)); clear hb2))
        go_ret
        exact ⟨k, rfl, by rw [HX.out]; simp, HB2.out⟩
      | false =>
        have HX : Hid ((l.take (k + 1)).any bf = false) := Lib.hid (any_take HT.out HQ.out d1)
        have HD := Lib.hid d1
        clear d1
        go_wp2_with ((with_reducible refine HCA.out.mono ?_); go_must (rintro e w2 ⟨rfl, hb2⟩; rw [HD.out]; have HB2 := Lib.hid (HB.out.trans (hb2.mono HB.out.size)); clear hb2))
        go_roundw
        case measure => simp only [intOf]; omega
        case rel => exact ⟨k + 1, by omega, by simp, HB2, HX⟩
    · have hkn : k = n := by omega
      subst hkn
      have HX : Hid (l.any bf = false) := Lib.hid (by have := HT.out; rwa [List.take_of_length_le (by have := HL.out; omega)] at this)
      clear h
      go_wp2_with fail
      go_ret
      exact ⟨-1, rfl, by rw [HX.out]; rfl, HB.out⟩
set_option maxHeartbeats 400000 in
theorem contains_ed (w : World) (hi : Nat) (A : Option Addr) (n c : Nat) (l : List (RowD × Sl)) (h : Row w 0 hi 2 A n c (l.flatMap rowC)) (hh : hi ≤ w.heap.size) (F : FuncId) (caps : Array Value) (bf : (RowD × Sl) → Bool) (HF : Tells w F caps (fun q : (RowD × Sl) => .agg #[.string q.1.con, .slice q.2.A q.2.n q.2.c]) l bf) :
    Calls Tryz.prog 111 #[.slice A n c, .func (.func F) #[] caps] w (Ret w (.bool (l.any bf))) := by
  have HI := Lib.hid (index_ed w hi A n c l h hh F caps bf HF)
  generalize l.any bf = y at HI
  clear h HF
  go_enter Tryz.func111, Tryz.ntmps111
  go_wp2_with (go_at_call 133; go_must (refine HI.out.mono ?_; rintro e w2 ⟨k, rfl, hk, hb2⟩; have HK := Lib.hid hk; have HB2 := Lib.hid hb2; clear hk hb2))
  go_ret
  exact ret_b HK.out.symm rfl HB2.out
set_option maxRecDepth 20000 in
set_option maxHeartbeats 1600000 in
theorem index_te (w : World) (hi : Nat) (A : Option Addr) (n c : Nat) (l : List (RowD × Sl)) (h : Row w 0 hi 2 A n c (l.flatMap rowC)) (hh : hi ≤ w.heap.size) (F : FuncId) (caps : Array Value) (bf : (RowD × Sl) → Bool) (HF : Tells w F caps (fun q : (RowD × Sl) => .agg #[.string q.1.con, .slice q.2.A q.2.n q.2.c]) l bf) :
    Calls Tryz.prog 134 #[.slice A n c, .func (.func F) #[] caps] w (IxIs w (l.any bf)) := by
  have hc := h.2.2.1
  have hnc := h.2.1
  have hln : l.length = n := by have := h.1; rw [flatN_len (f := rowC) (s := 2) (fun _ => rfl)] at this; omega
  have HL := Lib.hid hln
  unfold maxLen at hc
  have hen := HF.enters
  have HFF := Lib.hid HF
  clear hln HF
  go_enter Tryz.func134, Tryz.ntmps134
  go_wp2_with fail
  go_loopw [8] (fun i wr => ∃ k : Nat, k ≤ n ∧ i = .int .i64 k ∧ Hid (Below w.heap.size w wr) ∧ Hid ((l.take k).any bf = false)) (fun i _ => n - (intOf i).toNat)
  case atStart => exact ⟨0, Nat.zero_le _, rfl, Lib.hid (Below.refl _ _), Lib.hid (by simp)⟩
  case round =>
    obtain ⟨k, hk, rfl, HB, HT⟩ := hrel
    rename World => wr
    by_cases hlt : k < n
    · obtain ⟨b, o, rfl, _, hb, hcell⟩ := h.at_ (by omega)
      obtain ⟨q, hq⟩ : ∃ q, l[k]? = some q := ⟨l[k]'(by have := HL.out; omega), List.getElem?_eq_getElem _⟩
      have c0 := (HB.out.cell (p := ⟨b, _, none⟩) (Nat.lt_of_lt_of_le hb hh)).trans (hcell (k * 2 + 0) _ ((flatN_get (f := rowC) (s := 2) (fun _ => rfl) l k q hq 0 (by omega)).trans rfl))
      simp only [Nat.add_zero] at c0
      have c1 := (HB.out.cell (p := ⟨b, _, none⟩) (Nat.lt_of_lt_of_le hb hh)).trans (hcell (k * 2 + 1) _ ((flatN_get (f := rowC) (s := 2) (fun _ => rfl) l k q hq 1 (by omega)).trans rfl))
      rw [show o + (k * 2 + 1) = o + k * 2 + 1 from by omega] at c1
      have HQ := Lib.hid hq
      have HCA : Hid (Calls Tryz.prog F (#[.agg #[.string q.1.con, .slice q.2.A q.2.n q.2.c]] ++ caps) wr (Ret wr (.bool (bf q)))) := Lib.hid (HFF.out.call wr HB.out q (List.mem_of_getElem? hq))
      clear hcell hq
      cases d1 : bf q with
      | true =>
        have HX : Hid (l.any bf = true) := Lib.hid (any_at HQ.out d1)
        have HD := Lib.hid d1
        clear d1 h
        go_wp2_with ((with_reducible refine HCA.out.mono ?_); go_must (rintro e w2 ⟨rfl, hb2⟩; rw [HD.out]; have HB2 := Lib.hid (HB.out.trans (hb2.mono HB.out.size)); clear hb2))
        go_ret
        exact ⟨k, rfl, by rw [HX.out]; simp, HB2.out⟩
      | false =>
        have HX : Hid ((l.take (k + 1)).any bf = false) := Lib.hid (any_take HT.out HQ.out d1)
        have HD := Lib.hid d1
        clear d1
        go_wp2_with ((with_reducible refine HCA.out.mono ?_); go_must (rintro e w2 ⟨rfl, hb2⟩; rw [HD.out]; have HB2 := Lib.hid (HB.out.trans (hb2.mono HB.out.size)); clear hb2))
        go_roundw
        case measure => simp only [intOf]; omega
        case rel => exact ⟨k + 1, by omega, by simp, HB2, HX⟩
    · have hkn : k = n := by omega
      subst hkn
      have HX : Hid (l.any bf = false) := Lib.hid (by have := HT.out; rwa [List.take_of_length_le (by have := HL.out; omega)] at this)
      clear h
      go_wp2_with fail
      go_ret
      exact ⟨-1, rfl, by rw [HX.out]; rfl, HB.out⟩
set_option maxHeartbeats 400000 in
theorem contains_te (w : World) (hi : Nat) (A : Option Addr) (n c : Nat) (l : List (RowD × Sl)) (h : Row w 0 hi 2 A n c (l.flatMap rowC)) (hh : hi ≤ w.heap.size) (F : FuncId) (caps : Array Value) (bf : (RowD × Sl) → Bool) (HF : Tells w F caps (fun q : (RowD × Sl) => .agg #[.string q.1.con, .slice q.2.A q.2.n q.2.c]) l bf) :
    Calls Tryz.prog 112 #[.slice A n c, .func (.func F) #[] caps] w (Ret w (.bool (l.any bf))) := by
  have HI := Lib.hid (index_te w hi A n c l h hh F caps bf HF)
  generalize l.any bf = y at HI
  clear h HF
  go_enter Tryz.func112, Tryz.ntmps112
  go_wp2_with (go_at_call 134; go_must (refine HI.out.mono ?_; rintro e w2 ⟨k, rfl, hk, hb2⟩; have HK := Lib.hid hk; have HB2 := Lib.hid hb2; clear hk hb2))
  go_ret
  exact ret_b HK.out.symm rfl HB2.out
end Go.Proofs.YtilemieknfdjnaaGreat

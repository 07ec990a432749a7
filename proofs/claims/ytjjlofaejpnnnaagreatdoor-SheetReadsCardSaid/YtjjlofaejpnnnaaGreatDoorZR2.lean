/-
  PLAIN: the document's way to read a number is the library's, where the text is the number's own. No program stands in it.
  WALKS: Show and Int of package names. Condition of these: the library's variables hold what its text lays.
  MEMORY: when a slice, a node, a model in memory reads as a list, a node, a model of plain values. No program stands in it.
  PLAIN VALUES: what a word is, what a model is. No program stands in it.
  THE LIBRARY's VARIABLES as the rows list them: what that gives the walks; a start in which they lie so.
-/
import Derived.Test.YtjjlofaejpnnnaaGreatDoorZR1
import Derived.Lib.ItoaNum
import Derived.Lib.ItoaMem
import Derived.Lib.ParseIntBTie
import Derived.Lib.LaidTab
import Derived.Lib.SmallJoins
import Derived.Shelf.SlSorted.Search
import Derived.WalkKit
import Derived.Lib.Hide
import Derived.Lib.QuietBelow
import Derived.Test.YtjjlofaejpnnnaaGreatDoorCards
import Derived.Test.YtjjlofaejpnnnaaGreatDoorTie
import Derived.ProofKit
import Derived.OpenShut
import Derived.Deep.DeepHandedRow
import Derived.Deep.DeepWitnessRowRef
import Derived.Stop.LaidErr
import Derived.SizedLaws
namespace Go.Proofs.YtjjlofaejpnnnaaGreatDoor
open Go
set_option linter.unusedVariables false
def isDg (c : UInt8) : Bool := decide (48 ≤ c.toNat ∧ c.toNat ≤ 57)
def valD (acc : Nat) (l : List UInt8) : Nat := l.foldl (fun a c => a * 10 + (c.toNat - 48)) acc
theorem valD_nil (acc : Nat) : valD acc [] = acc := List.foldl_nil ..
theorem valD_cons (acc : Nat) (c : UInt8) (r : List UInt8) : valD acc (c :: r) = valD (acc * 10 + (c.toNat - 48)) r := List.foldl_cons ..
theorem valD_ge (l : List UInt8) : ∀ acc : Nat, acc ≤ valD acc l := by
  induction l with
  | nil => intro acc; simp only [valD_nil]; omega
  | cons c r ih =>
    intro acc
    have := ih (acc * 10 + (c.toNat - 48))
    simp only [valD_cons]; omega
theorem valD_snoc (l : List UInt8) (acc : Nat) (c : UInt8) : valD acc (l ++ [c]) = valD acc l * 10 + (c.toNat - 48) := by
  unfold valD; rw [List.foldl_append]; rfl
theorem parse_of_val (l : List UInt8) : ∀ (acc : Nat), l.all isDg = true → valD acc l < 18446744073709551616 → Lib.parseUint10 acc l = .ok (valD acc l) := by
  induction l with
  | nil => intro acc _ _; simp only [valD_nil, Lib.parseUint10]
  | cons c r ih =>
    intro acc h hv
    rw [List.all_cons, Bool.and_eq_true] at h
    have hc : 48 ≤ c.toNat ∧ c.toNat ≤ 57 := by simpa [isDg] using h.1
    have hg := valD_ge r (acc * 10 + (c.toNat - 48))
    simp only [valD_cons] at hv ⊢
    simp only [Lib.parseUint10]
    rw [if_pos hc, if_neg (by omega), if_neg (by omega)]
    exact ih _ h.2 hv
theorem dg_toNat (d : Nat) (h : d < 10) : (UInt8.ofNat (48 + d)).toNat = 48 + d := by simp; omega
theorem dec_val (u : Nat) : valD 0 (Lib.decDigits u) = u ∧ (Lib.decDigits u).all isDg = true := by
  induction u using Nat.strongRecOn with
  | _ u ih =>
    by_cases h : u < 10
    · rw [Lib.decDigits, dif_pos h]
      have := dg_toNat u h
      constructor
      · simp only [valD_cons, valD_nil]; omega
      · simp only [List.all_cons, List.all_nil, Bool.and_true, isDg, this]; simp; omega
    · rw [Lib.decDigits, dif_neg h]
      have i := ih (u / 10) (by omega)
      have := dg_toNat (u % 10) (by omega)
      constructor
      · rw [valD_snoc, i.1]; omega
      · rw [List.all_append, i.2]; simp only [List.all_cons, List.all_nil, Bool.and_true, isDg, this]; simp; omega
theorem dec_ne (u : Nat) : Lib.decDigits u ≠ [] := by
  rw [Lib.decDigits]; split <;> simp
theorem dec_head (u : Nat) (h1 : 1 ≤ u) : ∃ c r, Lib.decDigits u = c :: r ∧ c.toNat ≠ 48 := by
  induction u using Nat.strongRecOn with
  | _ u ih =>
    by_cases h : u < 10
    · rw [Lib.decDigits, dif_pos h]
      exact ⟨_, _, rfl, by rw [dg_toNat u h]; omega⟩
    · rw [Lib.decDigits, dif_neg h]
      obtain ⟨c, r, e, hc⟩ := ih (u / 10) (by omega) (by omega)
      rw [e]
      exact ⟨c, _, rfl, hc⟩
theorem dec_len : ∀ (k u : Nat), u < 10 ^ (k + 1) → (Lib.decDigits u).length ≤ k + 1
  | 0, u, h => by
    rw [Lib.decDigits, dif_pos (by simpa using h)]; simp
  | k + 1, u, h => by
    by_cases hu : u < 10
    · rw [Lib.decDigits, dif_pos hu]; simp
    · rw [Lib.decDigits, dif_neg hu, List.length_append]
      have := dec_len k (u / 10) (by rw [Nat.pow_succ] at h; omega)
      simp; omega
theorem valD_pos {c : UInt8} {r : List UInt8} (hc : isDg c = true) (h48 : c.toNat ≠ 48) : 1 ≤ valD 0 (c :: r) := by
  have : 48 ≤ c.toNat ∧ c.toNat ≤ 57 := by simpa [isDg] using hc
  have := valD_ge r (0 * 10 + (c.toNat - 48))
  simp only [valD_cons]; omega
theorem dec_snoc (v d : Nat) (hv : 1 ≤ v) (hd : d < 10) : Lib.decDigits (v * 10 + d) = Lib.decDigits v ++ [UInt8.ofNat (48 + d)] := by
  rw [Lib.decDigits, dif_neg (by omega)]
  have a : (v * 10 + d) / 10 = v := by omega
  have b : (v * 10 + d) % 10 = d := by omega
  rw [a, b]
/-- digits without noughts ahead are those of their number -/
theorem dec_canon : ∀ (n : Nat) (c : UInt8) (r : List UInt8), r.length = n → (c :: r).all isDg = true → (c.toNat ≠ 48 ∨ r = []) → Lib.decDigits (valD 0 (c :: r)) = c :: r := by
  intro n
  induction n with
  | zero =>
    intro c r hr h _
    obtain rfl : r = [] := List.length_eq_zero_iff.1 hr
    have hc : 48 ≤ c.toNat ∧ c.toNat ≤ 57 := by simpa [isDg] using h
    simp only [valD_cons, valD_nil]
    rw [Lib.decDigits, dif_pos (by omega)]
    have : 48 + (0 * 10 + (c.toNat - 48)) = c.toNat := by omega
    rw [this]; simp
  | succ n ih =>
    intro c r hr h hh
    have hne : r ≠ [] := by intro e; rw [e] at hr; simp at hr
    have h48 : c.toNat ≠ 48 := by rcases hh with h | h; exact h; exact absurd h hne
    obtain ⟨r', x, rfl⟩ : ∃ r' x, r = r' ++ [x] := ⟨r.dropLast, r.getLast hne, (List.dropLast_concat_getLast hne).symm⟩
    have e : c :: (r' ++ [x]) = (c :: r') ++ [x] := rfl
    rw [e] at h ⊢
    rw [List.all_append, Bool.and_eq_true] at h
    have hx : 48 ≤ x.toNat ∧ x.toNat ≤ 57 := by have := h.2; simpa [isDg] using this
    have hv := valD_pos (r := r') (by have := h.1; rw [List.all_cons, Bool.and_eq_true] at this; exact this.1) h48
    rw [valD_snoc, dec_snoc _ _ hv (by omega), ih c r' (by simp at hr; omega) h.1 (.inl h48)]
    have : 48 + (x.toNat - 48) = x.toNat := by omega
    rw [this]; simp
/-- the document's way -/
def refD (neg : Bool) (d : List UInt8) : Option Int :=
  match d with
  | [] => none
  | c :: r =>
    if 19 < (c :: r).length then none
    else if c.toNat = 48 ∧ (neg = true ∨ r ≠ []) then none
    else if (c :: r).all isDg = true then
      if (if neg then 9223372036854775808 else 9223372036854775807) < valD 0 (c :: r) then none
      else some (if neg then -(valD 0 (c :: r) : Int) else valD 0 (c :: r))
    else none
def refI : List UInt8 → Option Int
  | [] => none
  | c :: r => if c.toNat = 45 then refD true r else refD false (c :: r)
theorem refD_some {neg : Bool} {d : List UInt8} {v : Int} (h : refD neg d = some v) :
    ∃ c r, d = c :: r ∧ d.length ≤ 19 ∧ d.all isDg = true ∧ (c.toNat ≠ 48 ∨ (neg = false ∧ r = [])) ∧ valD 0 d ≤ (if neg then 9223372036854775808 else 9223372036854775807) ∧ v = (if neg then -(valD 0 d : Int) else valD 0 d) := by
  cases d with
  | nil => cases h
  | cons c r =>
    simp only [refD] at h
    by_cases h1 : 19 < (c :: r).length
    · rw [if_pos h1] at h; cases h
    · rw [if_neg h1] at h
      by_cases h2 : c.toNat = 48 ∧ (neg = true ∨ r ≠ [])
      · rw [if_pos h2] at h; cases h
      · rw [if_neg h2] at h
        by_cases h3 : (c :: r).all isDg = true
        · rw [if_pos h3] at h
          by_cases h4 : (if neg then 9223372036854775808 else 9223372036854775807) < valD 0 (c :: r)
          · rw [if_pos h4] at h; cases h
          · rw [if_neg h4] at h
            refine ⟨c, r, rfl, by omega, h3, ?_, by omega, (Option.some.inj h).symm⟩
            by_cases e : c.toNat = 48
            · right
              constructor
              · cases neg with
                | false => rfl
                | true => exact absurd ⟨e, .inl rfl⟩ h2
              · by_cases er : r = []
                · exact er
                · exact absurd ⟨e, .inr er⟩ h2
            · exact .inl e
        · rw [if_neg h3] at h; cases h
theorem atoi_neg (d : List UInt8) (hne : d ≠ []) (ha : d.all isDg = true) (hv : valD 0 d ≤ 9223372036854775808) : Lib.atoiAll (45 :: d) = .ok (-(valD 0 d : Int)) := by
  have hp := parse_of_val d 0 ha (by omega)
  unfold Lib.atoiAll
  have e : (45 : UInt8).toNat = 45 := rfl
  simp only [e]
  rw [if_pos (.inr trivial), Lib.parseMag, if_neg hne, hp]
  simp only
  rw [if_neg (by simp), if_neg (by omega)]
  rfl
theorem atoi_pos (c : UInt8) (r : List UInt8) (ha : (c :: r).all isDg = true) (hv : valD 0 (c :: r) ≤ 9223372036854775807) : Lib.atoiAll (c :: r) = .ok (valD 0 (c :: r) : Int) := by
  have hp := parse_of_val (c :: r) 0 ha (by omega)
  have hc : 48 ≤ c.toNat ∧ c.toNat ≤ 57 := by rw [List.all_cons, Bool.and_eq_true] at ha; simpa [isDg] using ha.1
  unfold Lib.atoiAll
  simp only
  rw [if_neg (by omega), Lib.parseMag, if_neg (by simp), hp]
  simp only
  rw [if_neg (by omega), if_neg (by omega), if_neg (by omega)]
theorem intT_some {l : List UInt8} {v : Int} (h1 : Lib.atoiAll l = .ok v) (h2 : Lib.itoa v = l) : intT l = some v := by
  unfold intT
  rw [Lib.parseIntB_64, h1]
  simp only
  rw [if_pos h2]
theorem intT_out {l : List UInt8} {v : Int} (h : intT l = some v) : Lib.itoa v = l ∧ -9223372036854775808 ≤ v ∧ v ≤ 9223372036854775807 ∧ Lib.parseIntB 64 l = .ok v := by
  unfold intT at h
  cases hp : Lib.parseIntB 64 l with
  | ok u =>
    rw [hp] at h
    simp only at h
    split at h
    · rename_i e
      have := Option.some.inj h
      subst this
      have b := Lib.parseIntB_bounds hp
      simp at b
      exact ⟨e, by omega, by omega, rfl⟩
    · cases h
  | «syntax» => rw [hp] at h; cases h
  | range => rw [hp] at h; cases h
theorem itoa_of_nat (u : Nat) : Lib.itoa (u : Int) = Lib.decDigits u := Lib.itoa_nonneg u
theorem intT_of_ref {l : List UInt8} {v : Int} (h : refI l = some v) : intT l = some v := by
  cases l with
  | nil => cases h
  | cons c r =>
    simp only [refI] at h
    split at h
    · rename_i hc
      obtain rfl : c = 45 := UInt8.toNat_inj.1 hc
      obtain ⟨x, q, rfl, hlen, ha, hx, hv, rfl⟩ := refD_some h
      simp only [if_true] at hv ⊢
      have h48 : x.toNat ≠ 48 := by rcases hx with h | h; exact h; exact absurd h.1 (by simp)
      have hpos := valD_pos (r := q) (by rw [List.all_cons, Bool.and_eq_true] at ha; exact ha.1) h48
      refine intT_some (atoi_neg _ (by simp) ha hv) ?_
      rw [Lib.itoa_neg _ hpos, dec_canon _ x q rfl ha (.inl h48)]
    · obtain ⟨x, q, e, hlen, ha, hx, hv, rfl⟩ := refD_some h
      obtain ⟨rfl, rfl⟩ := List.cons.inj e
      simp only [Bool.false_eq_true, if_false] at hv ⊢
      refine intT_some (atoi_pos c r ha hv) ?_
      rw [itoa_of_nat, dec_canon _ c r rfl ha (hx.imp id fun h => h.2)]
theorem refD_mk (neg : Bool) (u : Nat) (h1 : neg = true → 1 ≤ u) (hu : u ≤ (if neg then 9223372036854775808 else 9223372036854775807)) : refD neg (Lib.decDigits u) = some (if neg then -(u : Int) else u) := by
  have hl := dec_len 18 u (by cases neg <;> simp at hu <;> omega)
  have hv := dec_val u
  rcases hd : Lib.decDigits u with _ | ⟨c, r⟩
  · exact absurd hd (dec_ne u)
  · rw [hd] at hl hv
    simp only [refD]
    rw [if_neg (by omega), if_neg, if_pos hv.2, hv.1, if_neg (by omega)]
    rintro ⟨hc, hr⟩
    by_cases hu0 : 1 ≤ u
    · obtain ⟨x, q, e, hx⟩ := dec_head u hu0
      rw [hd] at e
      exact hx (by rw [← (List.cons.inj e).1]; exact hc)
    · have : u = 0 := by omega
      subst this
      have e0 : Lib.decDigits 0 = [48] := by rw [Lib.decDigits, dif_pos (by omega)]; rfl
      rw [e0] at hd
      rcases hr with hr | hr
      · exact absurd (h1 hr) (by omega)
      · exact hr (List.cons.inj hd).2.symm
theorem ref_of_intT {l : List UInt8} {v : Int} (h : intT l = some v) : refI l = some v := by
  obtain ⟨e, b1, b2, _⟩ := intT_out h
  by_cases hn : v < 0
  · obtain ⟨u, rfl⟩ : ∃ u : Nat, v = -(u : Int) := ⟨v.natAbs, by omega⟩
    rw [Lib.itoa_neg u (by omega)] at e
    subst e
    simp only [refI]
    rw [if_pos (by rfl)]
    have := refD_mk true u (by omega) (by simp; omega)
    simpa using this
  · obtain ⟨u, rfl⟩ : ∃ u : Nat, v = (u : Int) := ⟨v.toNat, by omega⟩
    rw [itoa_of_nat] at e
    have := refD_mk false u (by simp) (by simp; omega)
    rw [e] at this
    cases l with
    | nil => exact absurd e (dec_ne u)
    | cons c r =>
      simp only [refI]
      rw [if_neg]
      · simpa using this
      · intro hc
        have := (dec_val u).2
        rw [e, List.all_cons, Bool.and_eq_true] at this
        have : 48 ≤ c.toNat ∧ c.toNat ≤ 57 := by simpa [isDg] using this.1
        omega
theorem refI_eq (l : List UInt8) : refI l = intT l := by
  cases h : intT l with
  | some v => exact ref_of_intT h
  | none =>
    cases h' : refI l with
    | none => rfl
    | some v => rw [intT_of_ref h'] at h; cases h
end Go.Proofs.YtjjlofaejpnnnaaGreatDoor
namespace Go.Proofs.YtjjlofaejpnnnaaGreatDoor
open Go Go.RowKit
set_option linter.unusedVariables false
/-- what the library's variables hold -/
structure Env (w : World) : Prop where
  syn : ∃ tp p, w.var? Tryz.prog "strconv.ErrSyntax" = some #[.iface tp p]
  rng : ∃ tp p, w.var? Tryz.prog "strconv.ErrRange" = some #[.iface tp p]
  tab : Lib.TabIs Tryz.prog w "internal/strconv.uint64pow10" .u64 Lib.pow10Tab
theorem gSyn : Tryz.prog.globalNamed "strconv.ErrSyntax" = some 1 := by kernel_rfl
theorem gRng : Tryz.prog.globalNamed "strconv.ErrRange" = some 2 := by kernel_rfl
theorem gTab : Tryz.prog.globalNamed "internal/strconv.uint64pow10" = some 5 := by kernel_rfl
theorem var_lt {w : World} {n : String} {g : Nat} {cs : Array Value} (hg : Tryz.prog.globalNamed n = some g) (h : w.var? Tryz.prog n = some cs) : g < w.heap.size := by
  unfold World.var? at h
  simp only [hg, Option.bind_some] at h
  by_cases hl : g < w.heap.size
  · exact hl
  · rw [Array.getElem?_eq_none (by omega)] at h; simp at h
theorem Env.below {w w' : World} (h : Env w) (hb : Below w.heap.size w w') : Env w' := by
  obtain ⟨⟨t1, p1, h1⟩, ⟨t2, p2, h2⟩, h3⟩ := h
  exact ⟨⟨t1, p1, var?_below hb gSyn (var_lt gSyn h1) h1⟩, ⟨t2, p2, var?_below hb gRng (var_lt gRng h2) h2⟩, var?_below hb gTab (var_lt gTab h3) h3⟩
/-- a string told, memory at most grown -/
def Tells (w : World) (l : List UInt8) (e : Ending) (w' : World) : Prop := e = .returned (.string ⟨l.toArray⟩) ∧ Below w.heap.size w w'
set_option maxHeartbeats 400000 in
theorem show_any (n : Int) (w : World) (h0 : -9223372036854775808 ≤ n) (h1 : n ≤ 9223372036854775807) (hE : Env w) : Calls Tryz.prog 60 #[.int .i64 n] w (Tells w (Lib.itoa n)) := by
  have H : Hid (Calls Tryz.prog 95 #[.int .i64 n, .int .i64 10] w (Tells w (Lib.itoa n))) :=
    (Tryz.strconv_FormatInt_10 n h0 h1 w hE.tab).mono fun e w' ⟨he, k, os, hw⟩ => ⟨he, by rw [hw]; exact below_grown_sl _ _ _ _ (Nat.le_refl _)⟩
  clear h0 h1 hE
  go_enter Tryz.func60, Tryz.ntmps60
  go_wp2_with (go_at_call 95; refine H.out.mono ?_; rintro e w' ⟨rfl, hb⟩)
  go_ret
  exact ⟨rfl, hb⟩
/-- a number told, or none -/
def Numbers (w : World) (r : Option Int) (e : Ending) (w' : World) : Prop := e = .returned (.tuple #[.int .i64 (r.getD 0), .int .i64 (if r.isSome then 0 else 2)]) ∧ Below w.heap.size w w'
/-- what ParseInt tells: no error and the number, or an error -/
def Parses (w : World) (l : List UInt8) (e : Ending) (w' : World) : Prop :=
  ∃ (n : Int) (v : Value), e = .returned (.tuple #[.int .i64 n, v]) ∧ Below w.heap.size w w' ∧
    ((v = .nilIface ∧ Lib.parseIntB 64 l = .ok n) ∨ (∃ t p, v = .iface t p) ∧ ∀ u, Lib.parseIntB 64 l ≠ .ok u)
theorem parse_any (s : ByteArray) (w : World) (hs : s.size ≤ 281474976710656) (hE : Env w) : Calls Tryz.prog 74 #[.string s, .int .i64 10, .int .i64 64] w (Parses w s.data.toList) := by
  obtain ⟨⟨t1, p1, h1⟩, ⟨t2, p2, h2⟩, _⟩ := hE
  cases h : Lib.parseIntB 64 s.data.toList with
  | ok v =>
    refine (Tryz.strconv_ParseInt_10_at64_ok s (by omega) v h w).mono fun e w' ⟨he, hw⟩ => ⟨v, .nilIface, he, ?_, .inl ⟨rfl, h⟩⟩
    rcases hw with rfl | ⟨t, rfl⟩
    · exact Below.refl _ _
    · exact Joins.below_bytesWorld _ _ _ _ (Nat.le_refl _)
  | «syntax» =>
    exact (Tryz.strconv_ParseInt_10_at64_syntax_var s hs h t1 p1 w h1).mono fun e w' ⟨N, he, _, _, hb⟩ => ⟨0, _, he, hb, .inr ⟨⟨_, _, rfl⟩, by rw [h]; simp⟩⟩
  | range =>
    exact (Tryz.strconv_ParseInt_10_at64_range_var s hs h t2 p2 w h2).mono fun e w' ⟨N, he, _, _, hb⟩ => ⟨_, _, he, hb, .inr ⟨⟨_, _, rfl⟩, by rw [h]; simp⟩⟩
theorem intT_err {l : List UInt8} (h : ∀ u, Lib.parseIntB 64 l ≠ .ok u) : intT l = none := by
  unfold intT
  cases hp : Lib.parseIntB 64 l with
  | ok u => exact absurd hp (h u)
  | «syntax» => rfl
  | range => rfl
theorem intT_yes {l : List UInt8} {n : Int} (h : Lib.parseIntB 64 l = .ok n) (e : Lib.itoa n = l) : intT l = some n := by
  unfold intT; rw [h]; simp only; rw [if_pos e]
theorem intT_no {l : List UInt8} {n : Int} (h : Lib.parseIntB 64 l = .ok n) (e : ¬ Lib.itoa n = l) : intT l = none := by
  unfold intT; rw [h]; simp only; rw [if_neg e]
set_option maxHeartbeats 400000 in
theorem int_any (s : ByteArray) (w : World) (hs : s.size ≤ 281474976710656) (hE : Env w) : Calls Tryz.prog 39 #[.string s] w (Numbers w (intT s.data.toList)) := by
  have HE := Lib.hid hE
  clear hE
  go_enter Tryz.func39, Tryz.ntmps39
  go_wp2_with fail
  refine (parse_any s w hs HE.out).mono ?_
  rintro e w1 ⟨n, v, rfl, hb, hv⟩
  rcases hv with ⟨rfl, hp⟩ | ⟨⟨t, p, rfl⟩, hno⟩
  · have hbd := Lib.parseIntB_bounds hp
    simp at hbd
    have HS : Hid (Calls Tryz.prog 60 #[.int .i64 n] w1 (Tells w1 (Lib.itoa n))) := show_any n w1 (by omega) (by omega) (HE.out.below hb)
    have HP := Lib.hid hp
    clear hbd hp
    by_cases he : Lib.itoa n = s.data.toList
    · have d1 : (Lib.itoa n == s.toList) = true := by rw [Lib.toList_data, he]; simp
      have HR : Hid (intT s.data.toList = some n) := Lib.hid (intT_yes HP.out he)
      clear he
      go_wp2_with (go_at_call 60; refine HS.out.mono ?_; rintro e w2 ⟨rfl, hb2⟩)
      go_ret2
      exact ⟨by rw [HR.out]; rfl, hb.trans (hb2.mono hb.size)⟩
    · have d1 : (Lib.itoa n == s.toList) = false := by rw [Lib.toList_data]; simpa using he
      have HR : Hid (intT s.data.toList = none) := Lib.hid (intT_no HP.out he)
      clear he
      go_wp2_with (go_at_call 60; refine HS.out.mono ?_; rintro e w2 ⟨rfl, hb2⟩)
      go_ret2
      exact ⟨by rw [HR.out]; rfl, hb.trans (hb2.mono hb.size)⟩
  · have HR : Hid (intT s.data.toList = none) := Lib.hid (intT_err hno)
    clear hno
    go_wp2_with fail
    go_ret2
    exact ⟨by rw [HR.out]; rfl, hb⟩
end Go.Proofs.YtjjlofaejpnnnaaGreatDoor
namespace Go.Proofs.YtjjlofaejpnnnaaGreatDoor
open Go Go.RowKit Go.Sort
set_option linter.unusedVariables false
/-- a node -/
structure Nd where
  id : Int
  con : ByteArray
  par : Int
  role : ByteArray
  props : List (ByteArray × ByteArray)
  kids : List Int
  refs : List (ByteArray × Int)
/-- what a call answers that makes memory of its own at most -/
def Ret (w : World) (v : Value) (e : Ending) (w' : World) : Prop := e = .returned v ∧ Below w.heap.size w w'
theorem below_drewN {B : Nat} {a w : World} (h : Below B a w) (n : Nat) : Below B a (w.drewN n) := ⟨h.os, h.tape, h.output, h.size, h.block⟩
/-- the slice value '.slice A n c' holds the cells xs, 'size' of them an element, in a block from lo on and below hi -/
def Row (w : World) (lo hi size : Nat) (A : Option Addr) (n c : Nat) (xs : List Value) : Prop :=
  xs.length = n * size ∧ n ≤ c ∧ c ≤ maxLen ∧ (0 < n → ∃ b o, A = some ⟨b, o, none⟩ ∧ lo ≤ b ∧ b < hi ∧ ∀ j u, xs[j]? = some u → w.cell? ⟨b, o + j, none⟩ = some u)
section
variable {w w' : World} {lo hi size n c : Nat} {A : Option Addr} {xs : List Value}
theorem Row.nil (w : World) (lo hi size : Nat) : Row w lo hi size none 0 0 [] := ⟨by simp, Nat.le_refl _, Nat.zero_le _, fun h => absurd h (by omega)⟩
theorem Row.keep (h : Row w lo hi size A n c xs) (hk : ∀ b o, b < hi → w'.cell? ⟨b, o, none⟩ = w.cell? ⟨b, o, none⟩) : Row w' lo hi size A n c xs :=
  ⟨h.1, h.2.1, h.2.2.1, fun hn => by
    obtain ⟨b, o, e, h1, h2, hc⟩ := h.2.2.2 hn
    exact ⟨b, o, e, h1, h2, fun j u hu => (hk b _ h2).trans (hc j u hu)⟩⟩
theorem Row.below (h : Row w lo hi size A n c xs) (hb : Below hi w w') : Row w' lo hi size A n c xs := h.keep fun _ _ hp => hb.cell (p := ⟨_, _, none⟩) hp
theorem Row.mono (h : Row w lo hi size A n c xs) {lo' hi' : Nat} (hl : lo' ≤ lo) (hh : hi ≤ hi') : Row w lo' hi' size A n c xs :=
  ⟨h.1, h.2.1, h.2.2.1, fun hn => by
    obtain ⟨b, o, e, h1, h2, hc⟩ := h.2.2.2 hn
    exact ⟨b, o, e, by omega, by omega, hc⟩⟩
/-- where the cells are -/
theorem Row.at_ (h : Row w lo hi size A n c xs) (hn : 0 < n) : ∃ b o, A = some ⟨b, o, none⟩ ∧ lo ≤ b ∧ b < hi ∧ ∀ j u, xs[j]? = some u → w.cell? ⟨b, o + j, none⟩ = some u := h.2.2.2 hn
end
def Blk (w : World) (g : Nat) (t : TypeId) (cs : Array Value) : Prop := w.heap[g]? = some (.cells cs t (0, 0))
section
variable {w w' : World} {g : Nat} {t : TypeId} {cs : Array Value}
theorem Blk.lt (h : Blk w g t cs) : g < w.heap.size := by
  rcases Nat.lt_or_ge g w.heap.size with hlt | hge
  · exact hlt
  · unfold Blk at h; rw [Array.getElem?_eq_none hge] at h; cases h
theorem Blk.cell (h : Blk w g t cs) (i : Nat) : w.cell? ⟨g, i, none⟩ = cs[i]? := cell_of_row w g i cs t (0, 0) h
theorem Blk.frozen (h : Blk w g t cs) (i : Nat) : w.frozen? ⟨g, i, none⟩ = false := by
  unfold Blk at h
  simp [World.frozen?, h]
theorem Blk.new (w : World) (t : TypeId) (cs : Array Value) : Blk (w.alloc (.cells cs t)) w.heap.size t cs := heap_alloc_new w _
theorem Blk.new' {w : World} {t : TypeId} {cs : Array Value} {g : Nat} (hg : g = w.heap.size) : Blk (w.alloc (.cells cs t)) g t cs := by rw [hg]; exact heap_alloc_new w _
theorem Blk.drewN (h : Blk w g t cs) (n : Nat) : Blk (w.drewN n) g t cs := h
theorem Blk.alloc (h : Blk w g t cs) (o : Obj) : Blk (w.alloc o) g t cs := (Below.heap_alloc w o g h.lt).trans h
theorem Blk.set_ (h : Blk w g t cs) (i : Nat) (u : Value) : Blk (w.setCell ⟨g, i, none⟩ u) g t (cs.setIfInBounds i u) := by
  unfold Blk at h ⊢
  simp [World.setCell, Array.getElem?_modify, h]
theorem Blk.far (h : Blk w g t cs) {p : Addr} (hp : g ≠ p.block) (u : Value) : Blk (w.setCell p u) g t cs := (Below.heap_setCell w p u g hp).trans h
theorem Blk.below {B : Nat} (h : Blk w g t cs) (hb : Below B w w') (hg : g < B) : Blk w' g t cs := (hb.block g hg).trans h
theorem Blk.after (h : Blk w g t cs) (hb : Below w.heap.size w w') : Blk w' g t cs := h.below hb h.lt
theorem Blk.grown {row : Option Nat} (h : Blk w g t cs) (hb : w.grownBy w' row) (hg : some g ≠ row) : Blk w' g t cs := (hb.block g h.lt hg).trans h
theorem Blk.ne_ {g' : Nat} {t' : TypeId} {cs' : Array Value} (h : Blk w g t cs) (h' : Blk w g' t' cs') (hne : t ≠ t') : g ≠ g' := by
  rintro rfl
  unfold Blk at h h'
  rw [h] at h'
  injection h' with h'
  injection h' with _ ht
  exact hne ht
end
def propCells (l : List (ByteArray × ByteArray)) : List Value := l.flatMap fun p => [.string p.1, .string p.2]
def refCells (l : List (ByteArray × Int)) : List Value := l.flatMap fun p => [.string p.1, .int .i64 p.2]
def intCells (l : List Int) : List Value := l.map (.int .i64)
theorem intCells_length (l : List Int) : (intCells l).length = l.length := by simp [intCells]
theorem flat2_get {α : Type} {f : α → List Value} (h2 : ∀ a, (f a).length = 2) (l : List α) : ∀ (i : Nat) (p : α), l[i]? = some p → (l.flatMap f)[i * 2]? = (f p)[0]? ∧ (l.flatMap f)[i * 2 + 1]? = (f p)[1]? := by
  induction l with
  | nil => intro i p h; simp at h
  | cons q l ih =>
    intro i p h
    have hq := h2 q
    match i, h with
    | 0, h =>
      obtain rfl : q = p := by simpa using h
      rw [List.flatMap_cons]
      rw [List.getElem?_append_left (by omega), List.getElem?_append_left (by omega)]
      exact ⟨rfl, rfl⟩
    | i + 1, h =>
      have := ih i p (by simpa using h)
      rw [List.flatMap_cons]
      rw [List.getElem?_append_right (by omega), List.getElem?_append_right (by omega), hq]
      rw [show (i + 1) * 2 - 2 = i * 2 from by omega, show (i + 1) * 2 + 1 - 2 = i * 2 + 1 from by omega]
      exact this
theorem propCells_get {l : List (ByteArray × ByteArray)} {i : Nat} {p : ByteArray × ByteArray} (h : l[i]? = some p) : (propCells l)[i * 2]? = some (.string p.1) ∧ (propCells l)[i * 2 + 1]? = some (.string p.2) :=
  flat2_get (f := fun p : ByteArray × ByteArray => [Value.string p.1, .string p.2]) (fun _ => rfl) l i p h
theorem refCells_get {l : List (ByteArray × Int)} {i : Nat} {p : ByteArray × Int} (h : l[i]? = some p) : (refCells l)[i * 2]? = some (.string p.1) ∧ (refCells l)[i * 2 + 1]? = some (.int .i64 p.2) :=
  flat2_get (f := fun p : ByteArray × Int => [Value.string p.1, .int .i64 p.2]) (fun _ => rfl) l i p h
theorem intCells_get {l : List Int} {i : Nat} {p : Int} (h : l[i]? = some p) : (intCells l)[i]? = some (.int .i64 p) := by
  simp [intCells, h]
/-- a block of numbers -/
def IBlk (w : World) (g : Nat) (a : List Int) : Prop := Blk w g 3 (intCells a).toArray
section
variable {w w' : World} {g : Nat} {a : List Int}
theorem IBlk.cell (h : IBlk w g a) {i : Nat} (hi : i < a.length) : w.cell? ⟨g, i, none⟩ = some (.int .i64 (a.getD i 0)) := by
  rw [Blk.cell h]
  simp [intCells, hi]
theorem IBlk.set_ (h : IBlk w g a) (i : Nat) (x : Int) : IBlk (w.setCell ⟨g, i, none⟩ (.int .i64 x)) g (a.set i x) := by
  have := Blk.set_ h i (.int .i64 x)
  unfold IBlk
  have e : (intCells (a.set i x)).toArray = (intCells a).toArray.setIfInBounds i (.int .i64 x) := by simp [intCells, List.map_set]
  rw [e]; exact this
theorem IBlk.after (h : IBlk w g a) (hb : Below w.heap.size w w') : IBlk w' g a := Blk.after h hb
theorem IBlk.lt (h : IBlk w g a) : g < w.heap.size := Blk.lt h
theorem IBlk.row (h : IBlk w g a) {lo hi n c : Nat} (hn : a.length = n) (hc : n ≤ c) (hm : c ≤ maxLen) (hl : lo ≤ g) (hh : g < hi) : Row w lo hi 1 (some ⟨g, 0, none⟩) n c (intCells a) :=
  ⟨by rw [intCells_length]; omega, hc, hm, fun _ => ⟨g, 0, rfl, hl, hh, fun j u hu => by rw [Nat.zero_add, Blk.cell h]; simpa using hu⟩⟩
end
/-- a slice value, its three parts -/
structure Sl where
  A : Option Addr
  n : Nat
  c : Nat
def Sl.v (s : Sl) : Value := .slice s.A s.n s.c
/-- a node's three lists as they lie in memory -/
structure Leaf where
  p : Sl
  k : Sl
  r : Sl
/-- the texts of a node are no longer than texts may be -/
structure SzN (nd : Nd) : Prop where
  con : nd.con.size ≤ maxLen
  role : nd.role.size ≤ maxLen
  props : ∀ p ∈ nd.props, p.1.size ≤ maxLen ∧ p.2.size ≤ maxLen
  refs : ∀ p ∈ nd.refs, p.1.size ≤ maxLen
/-- the lists of a node -/
structure LeafIn (w : World) (lo hi : Nat) (nd : Nd) (L : Leaf) : Prop where
  pn : L.p.n = nd.props.length
  kn : L.k.n = nd.kids.length
  rn : L.r.n = nd.refs.length
  p : Row w lo hi 2 L.p.A L.p.n L.p.c (propCells nd.props)
  k : Row w lo hi 1 L.k.A L.k.n L.k.c (intCells nd.kids)
  r : Row w lo hi 2 L.r.A L.r.n L.r.c (refCells nd.refs)
  sz : SzN nd
/-- a node's seven cells -/
structure NodeAt (w : World) (b o : Nat) (nd : Nd) (L : Leaf) : Prop where
  c0 : w.cell? ⟨b, o, none⟩ = some (.int .i64 nd.id)
  c1 : w.cell? ⟨b, o + 1, none⟩ = some (.string nd.con)
  c2 : w.cell? ⟨b, o + 2, none⟩ = some (.int .i64 nd.par)
  c3 : w.cell? ⟨b, o + 3, none⟩ = some (.string nd.role)
  c4 : w.cell? ⟨b, o + 4, none⟩ = some (.slice L.p.A L.p.n L.p.c)
  c5 : w.cell? ⟨b, o + 5, none⟩ = some (.slice L.k.A L.k.n L.k.c)
  c6 : w.cell? ⟨b, o + 6, none⟩ = some (.slice L.r.A L.r.n L.r.c)
/-- the slice '.slice A n c' holds these nodes; what they hold lies below hi, from lo on -/
def NodesIn (w : World) (lo hi : Nat) (A : Option Addr) (n c : Nat) (nds : List Nd) : Prop :=
  nds.length = n ∧ n ≤ c ∧ c ≤ maxLen ∧ (0 < n → ∃ b o, A = some ⟨b, o, none⟩ ∧ lo ≤ b ∧ b < hi ∧ ∃ V : Nat → Leaf, ∀ i nd, nds[i]? = some nd → NodeAt w b (o + i * 7) nd (V i) ∧ LeafIn w lo hi nd (V i))
section
variable {w w' : World} {lo hi n c : Nat} {A : Option Addr} {nds : List Nd} {nd : Nd} {L : Leaf} {b o : Nat}
theorem LeafIn.keep (h : LeafIn w lo hi nd L) (hk : ∀ b o, b < hi → w'.cell? ⟨b, o, none⟩ = w.cell? ⟨b, o, none⟩) : LeafIn w' lo hi nd L := ⟨h.pn, h.kn, h.rn, h.p.keep hk, h.k.keep hk, h.r.keep hk, h.sz⟩
theorem LeafIn.below (h : LeafIn w lo hi nd L) (hb : Below hi w w') : LeafIn w' lo hi nd L := ⟨h.pn, h.kn, h.rn, h.p.below hb, h.k.below hb, h.r.below hb, h.sz⟩
theorem LeafIn.mono (h : LeafIn w lo hi nd L) {lo' hi' : Nat} (hl : lo' ≤ lo) (hh : hi ≤ hi') : LeafIn w lo' hi' nd L := ⟨h.pn, h.kn, h.rn, h.p.mono hl hh, h.k.mono hl hh, h.r.mono hl hh, h.sz⟩
theorem NodeAt.keep (h : NodeAt w b o nd L) (hk : ∀ x, w'.cell? ⟨b, x, none⟩ = w.cell? ⟨b, x, none⟩) : NodeAt w' b o nd L :=
  ⟨(hk _).trans h.c0, (hk _).trans h.c1, (hk _).trans h.c2, (hk _).trans h.c3, (hk _).trans h.c4, (hk _).trans h.c5, (hk _).trans h.c6⟩
theorem NodeAt.below (h : NodeAt w b o nd L) (hb : Below hi w w') (hlt : b < hi) : NodeAt w' b o nd L := h.keep fun _ => hb.cell (p := ⟨_, _, none⟩) hlt
theorem NodesIn.nil (w : World) (lo hi : Nat) : NodesIn w lo hi none 0 0 [] := ⟨rfl, Nat.le_refl _, Nat.zero_le _, fun h => absurd h (by omega)⟩
theorem NodesIn.keep (h : NodesIn w lo hi A n c nds) (hk : ∀ b o, b < hi → w'.cell? ⟨b, o, none⟩ = w.cell? ⟨b, o, none⟩) : NodesIn w' lo hi A n c nds :=
  ⟨h.1, h.2.1, h.2.2.1, fun hn => by
    obtain ⟨b, o, e, h1, h2, V, hc⟩ := h.2.2.2 hn
    exact ⟨b, o, e, h1, h2, V, fun i nd hi => ⟨(hc i nd hi).1.keep (fun x => hk b x h2), (hc i nd hi).2.keep hk⟩⟩⟩
theorem NodesIn.below (h : NodesIn w lo hi A n c nds) (hb : Below hi w w') : NodesIn w' lo hi A n c nds := h.keep fun _ _ hp => hb.cell (p := ⟨_, _, none⟩) hp
theorem NodesIn.mono (h : NodesIn w lo hi A n c nds) {lo' hi' : Nat} (hl : lo' ≤ lo) (hh : hi ≤ hi') : NodesIn w lo' hi' A n c nds :=
  ⟨h.1, h.2.1, h.2.2.1, fun hn => by
    obtain ⟨b, o, e, h1, h2, V, hc⟩ := h.2.2.2 hn
    exact ⟨b, o, e, by omega, by omega, V, fun i nd hi => ⟨(hc i nd hi).1, (hc i nd hi).2.mono hl hh⟩⟩⟩
/-- the node at a place -/
theorem NodesIn.at_ (h : NodesIn w lo hi A n c nds) {i : Nat} (hi' : i < n) : ∃ b o nd L, A = some ⟨b, o, none⟩ ∧ lo ≤ b ∧ b < hi ∧ nds[i]? = some nd ∧ NodeAt w b (o + i * 7) nd L ∧ LeafIn w lo hi nd L := by
  obtain ⟨b, o, e, h1, h2, V, hc⟩ := h.2.2.2 (by omega)
  have hl : i < nds.length := by rw [h.1]; exact hi'
  have hg : nds[i]? = some nds[i] := List.getElem?_eq_getElem hl
  exact ⟨b, o, nds[i], V i, e, h1, h2, hg, (hc i _ hg).1, (hc i _ hg).2⟩
/-- where they are, and all of them -/
theorem NodesIn.all (h : NodesIn w lo hi A n c nds) (hn : 0 < n) : ∃ b o, A = some ⟨b, o, none⟩ ∧ lo ≤ b ∧ b < hi ∧ ∃ V : Nat → Leaf, ∀ i nd, nds[i]? = some nd → NodeAt w b (o + i * 7) nd (V i) ∧ LeafIn w lo hi nd (V i) := h.2.2.2 hn
end
end Go.Proofs.YtjjlofaejpnnnaaGreatDoor
namespace Go.Proofs.YtjjlofaejpnnnaaGreatDoor
open Go Go.RowKit
set_option linter.unusedVariables false
def letB (n : Int) : Bool := decide (65 ≤ n ∧ n ≤ 90) || decide (97 ≤ n ∧ n ≤ 122)
def innB (n : Int) : Bool := letB n || decide (48 ≤ n ∧ n ≤ 57) || n == 95
def innC (c : UInt8) : Bool := innB (c.toNat : Int)
def nameL : List UInt8 → Bool
  | [] => false
  | c :: r => decide (r.length < 32) && letB (c.toNat : Int) && r.all innC
def stripL : List UInt8 → List UInt8
  | [] => []
  | c :: r => if c = 63 then r else c :: r
def wordL (l : List UInt8) : Bool := nameL (stripL l)
def wordB (s : ByteArray) : Bool := wordL s.data.toList
theorem toList_eq (s : ByteArray) : s.data.toList.length = s.size := by rw [Array.length_toList]; rfl
theorem drop_get' (s : ByteArray) (k : Nat) (h : k < s.size) : s.data.toList.drop k = s[k] :: s.data.toList.drop (k + 1) := by
  rw [List.drop_eq_getElem_cons (by simpa using h)]; rfl
theorem drop_nil' (s : ByteArray) (k : Nat) (h : ¬ k < s.size) : s.data.toList.drop k = [] := List.drop_eq_nil_of_le (by rw [toList_eq]; omega)
theorem behind1 (s : ByteArray) : (s.extract 1 s.size).data.toList = s.data.toList.drop 1 := by
  rw [Lib.extract_data, List.take_of_length_le (by rw [List.length_drop, toList_eq]; omega)]
theorem behind1_size (s : ByteArray) (h : 0 < s.size) : (s.extract 1 s.size).size + 1 = s.size := by
  rw [← toList_eq, behind1, List.length_drop, toList_eq]; omega
theorem name_eq (s : ByteArray) (h : 0 < s.size) : nameL s.data.toList = (decide (s.size ≤ 32) && letB (s[0].toNat : Int) && (s.data.toList.drop 1).all innC) := by
  have e : s.data.toList = s[0] :: s.data.toList.drop 1 := by have := drop_get' s 0 h; simpa using this
  have hl := toList_eq s
  rw [e] at hl
  rw [e, nameL]
  simp only [List.length_cons, List.drop_succ_cons, List.drop_zero] at hl ⊢
  congr 2
  rw [Bool.eq_iff_iff]; simp; omega
theorem name_nil (s : ByteArray) (h : ¬ 0 < s.size) : nameL s.data.toList = false := by
  rw [List.length_eq_zero_iff.1 (by rw [toList_eq]; omega : s.data.toList.length = 0)]; rfl
theorem word_q (s : ByteArray) (h : 0 < s.size) (hc : s[0].toNat = 63) : wordB s = nameL (s.extract 1 s.size).data.toList := by
  have e : s.data.toList = s[0] :: s.data.toList.drop 1 := by have := drop_get' s 0 h; simpa using this
  rw [behind1]
  unfold wordB wordL
  conv => lhs; rw [e]
  rw [stripL, if_pos (UInt8.toNat_inj.1 hc)]
theorem word_p (s : ByteArray) (h : ∀ h : 0 < s.size, s[0].toNat ≠ 63) : wordB s = nameL s.data.toList := by
  unfold wordB wordL
  by_cases h0 : 0 < s.size
  · have e : s.data.toList = s[0] :: s.data.toList.drop 1 := by have := drop_get' s 0 h0; simpa using this
    have : stripL s.data.toList = s.data.toList := by
      conv => lhs; rw [e]
      rw [stripL, if_neg (fun hc => h h0 (by rw [hc]; rfl)), ← e]
    rw [this]
  · rw [List.length_eq_zero_iff.1 (by rw [toList_eq]; omega : s.data.toList.length = 0)]; rfl
theorem ret_bool {a b : Bool} (h : a = b) : Ending.returned (.bool a) = .returned (.bool b) := by rw [h]
end Go.Proofs.YtjjlofaejpnnnaaGreatDoor
namespace Go.Proofs.YtjjlofaejpnnnaaGreatDoor
open Go Go.ChangeShapes Go.WideShapes Go.ChangeAt Go.RowKit
set_option linter.unusedVariables false
theorem own : ownKnob Tryz.prog.godebug = none := by kernel_rfl
theorem gSynType : (Tryz.prog.globals[1]?).map (·.type) = some 109 := by kernel_rfl
theorem gRngType : (Tryz.prog.globals[2]?).map (·.type) = some 109 := by kernel_rfl
theorem gTabType : (Tryz.prog.globals[5]?).map (·.type) = some 197 := by kernel_rfl
theorem cellsES : Tryz.prog.cellsOf 202 = 1 := by kernel_rfl
theorem cellsStr : Tryz.prog.cellsOf 9 = 1 := by kernel_rfl
theorem starName : "*" ++ "errors.errorString" = "*errors.errorString" := by decide
theorem rowES (u : TypeId) (h : Tryz.prog.typeName? 3 u = some "*errors.errorString") : u = 200 :=
  typeName_ptr_named (nm := "errors.errorString") (by rw [starName]; kernel_rfl) (by kernel_rfl) (by decide) u (by rw [starName]; exact h)
theorem cellsU64 : Tryz.prog.cellsOf 160 = 1 := by kernel_rfl
theorem cellsTab : Tryz.prog.cellsOf 197 = 20 := by kernel_rfl
/-- what a row's list gives -/
theorem env_of {W : World} (h : laidMetH Tryz.prog Rows.sheetLinesRow.laid W) : Env W := by
  have h1 := laidMet.tail (laidMet.tail h)
  have h2 := laidMet.tail (laidMet.tail h1)
  have h3 := laidMet.tail h2
  refine ⟨?_, ?_, ?_⟩
  · obtain ⟨a, s, hv, _, _, _⟩ := laid_sentinel h3 gSyn gSynType Tryz.underlying109 rowES Tryz.underlying200 Tryz.underlying202 rfl rfl Tryz.underlying9 cellsES cellsStr
    exact ⟨_, _, hv⟩
  · obtain ⟨a, s, hv, _, _, _⟩ := laid_sentinel h2 gRng gRngType Tryz.underlying109 rowES Tryz.underlying200 Tryz.underlying202 rfl rfl Tryz.underlying9 cellsES cellsStr
    exact ⟨_, _, hv⟩
  · exact Lib.tabIs_of_head (zs := Lib.pow10Tab) gTab gTabType Tryz.underlying197 Tryz.underlying160 cellsU64 cellsTab h1
/-- so many blocks has the settled world -/
noncomputable def low : Nat := (World.holding Tryz.prog default ⟨#[], #[], []⟩).heap.size
def textRange : ByteArray := ⟨#[118, 97, 108, 117, 101, 32, 111, 117, 116, 32, 111, 102, 32, 114, 97, 110, 103, 101]⟩
def textSyntax : ByteArray := ⟨#[105, 110, 118, 97, 108, 105, 100, 32, 115, 121, 110, 116, 97, 120]⟩
def put (cs : Array Value) : Obj → Obj
  | .cells _ t frozen => .cells cs t frozen
  | o => o
/-- a start: the settled world, the listed variables as their initialisers lay them -/
noncomputable def laidWorld (os : Os) : World :=
  let w0 := World.holding Tryz.prog os ⟨#[.cells #[.string textRange] 202, .cells #[.string textSyntax] 202], #[], []⟩
  { w0 with heap := (((((((w0.heap.modify 2 (put #[.iface 200 (.pointer (some ⟨low, 0, none⟩))])).modify 1 (put #[.iface 200 (.pointer (some ⟨low + 1, 0, none⟩))])).modify 5 (put (Lib.pow10Tab.map (Value.int .u64)).toArray)).modify 6 (put (([0, 1, 28, 2, 29, 14, 24, 3, 30, 22, 20, 15, 25, 17, 4, 8, 31, 27, 13, 23, 21, 19, 16, 7, 26, 12, 18, 6, 11, 5, 10, 9] : List Int).map (Value.int .u8)).toArray)).modify 4 (put (([128, 191, 160, 191, 128, 159, 144, 191, 128, 143, 0, 0, 0, 0, 0, 0, 0, 0, 0, 0, 0, 0, 0, 0, 0, 0, 0, 0, 0, 0, 0, 0] : List Int).map (Value.int .u8)).toArray)).modify 3 (put (Go.Pinned.utf8FirstZ.map (fun n : Nat => Value.int .u8 (n : Int))).toArray)).modify 7 (put (([0, 1, 56, 2, 57, 49, 28, 3, 61, 58, 42, 50, 38, 29, 17, 4, 62, 47, 59, 36, 45, 43, 51, 22, 53, 39, 33, 30, 24, 18, 12, 5, 63, 55, 48, 27, 60, 41, 37, 16, 46, 35, 44, 21, 52, 32, 23, 11, 54, 26, 40, 15, 34, 20, 31, 10, 25, 14, 19, 9, 13, 8, 7, 6] : List Int).map (Value.int .u8)).toArray)) }
theorem laid_met (os : Os) (args : Array Value) : laidMet Tryz.prog Rows.sheetLinesRow.laid ((laidWorld os).forCall (fun _ _ => 0) ⟨#[], args, []⟩).memory :=
  laidMet_of_run' 8 (by kernel_rfl) (by kernel_rfl)
/-- the form's reach: a text's length -/
theorem reach_of {H : Type} {ts : List TypeId} {ds : List (DataW H)} (h : (DataW.weightsEach Tryz.prog ts ds).all (· ≤ reachBytes) = true) {j : Nat} {t : TypeId} {s : ByteArray} (ht : ts[j]? = some t) (hd : ds[j]? = some (.lit (.string s.data.toList))) : s.size ≤ 140737488351232 := by
  have := sized_string h ht hd
  rw [toList_eq] at this
  exact this
end Go.Proofs.YtjjlofaejpnnnaaGreatDoor

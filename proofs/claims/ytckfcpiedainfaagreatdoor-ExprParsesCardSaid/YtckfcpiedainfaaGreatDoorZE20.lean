/-
  WALKS over package expr's reader: kindAt, nameOf.
  WALKS over package expr: newTree, newInt.
-/
import Derived.Test.YtckfcpiedainfaaGreatDoorZE19
namespace Go.Proofs.YtckfcpiedainfaaGreatDoor
open Go Go.RowKit Go.Sort
set_option linter.unusedVariables false
/-- what kindAt answers -/
def kindVal : Option Nat → Value
  | some k => .tuple #[.int .i64 k, .bool true]
  | none => .tuple #[.int .i64 0, .bool false]
set_option maxHeartbeats 800000 in
set_option maxRecDepth 20000 in
theorem kindAt_any (w : World) (n : Int) (s : ByteArray) (hE : ExprEnv w) :
    Calls Tryz.prog 96 #[.int .i64 n, .string s] w (Ret w (kindVal (signAt n s.data.toList))) := by
  have HE := Lib.hid hE
  clear hE
  go_enter Tryz.func96, Tryz.ntmps96
  go_wp2_with fail
  go_loopw [7] (fun i wr => ∃ k : Nat, k ≤ 35 ∧ i = .int .i64 k ∧ Hid (Below w.heap.size w wr) ∧ Hid (NotYet n s.data.toList signsL k)) (fun i _ => 35 - (intOf i).toNat)
  case atStart => exact ⟨0, Nat.zero_le _, rfl, Lib.hid (Below.refl _ _), Lib.hid fun j x hj => by omega⟩
  case round =>
    obtain ⟨k, hk, rfl, HB, HN⟩ := hrel
    rename World => wr
    by_cases hlt : k < 35
    · have hx : signsL[k]? = some signsL[k] := List.getElem?_eq_getElem (by rw [signs_len]; exact hlt)
      have c2 := sign_cell (HE.out.below HB.out) hx (j := 2) (by decide) rfl
      have c0 := sign_cell (HE.out.below HB.out) hx (j := 0) (by decide) rfl
      simp only [Nat.add_zero] at c0
      have d0 : decide ((k : Int) < 35) = true := decide_eq_true (by omega)
      generalize signsL[k] = x at hx c2 c0
      have HX := Lib.hid hx
      clear hx
      by_cases h1 : x.level = n
      · have HL := Lib.hid h1
        have q1 : (x.level == n) = true := by simpa using h1
        by_cases h2 : x.text = s.data.toList
        · have q2 : ((ba x.text).toList == s.toList) = true := by rw [ByteArray.toList_eq, ByteArray.toList_eq, h2]; simp [ba]
          have HS : Hid (signAt n s.data.toList = some k) := Lib.hid (signAt_hit HN.out HX.out HL.out h2)
          clear h1 h2
          go_wp2_with fail
          exact ⟨rfl, kindVal (some k), by simp [results, Tryz.results96, kindVal], by rw [HS.out], HB.out⟩
        · have q2 : ((ba x.text).toList == s.toList) = false := by rw [ByteArray.toList_eq, ByteArray.toList_eq]; simpa [ba] using h2
          have HS : Hid (NotYet n s.data.toList signsL (k + 1)) := Lib.hid (HN.out.next HX.out fun e => h2 e.2)
          clear h1 h2
          go_wp2_with fail
          go_roundw
          case measure => simp only [intOf]; omega
          case rel => exact ⟨k + 1, by omega, by simp, HB, HS⟩
      · have q1 : (x.level == n) = false := by simpa using h1
        have HS : Hid (NotYet n s.data.toList signsL (k + 1)) := Lib.hid (HN.out.next HX.out fun e => h1 e.1)
        clear h1
        go_wp2_with fail
        go_roundw
        case measure => simp only [intOf]; omega
        case rel => exact ⟨k + 1, by omega, by simp, HB, HS⟩
    · have hkn : k = 35 := by omega
      subst hkn
      have HS : Hid (signAt n s.data.toList = none) := Lib.hid (signAt_none HN.out)
      go_wp2_with fail
      exact ⟨rfl, kindVal none, by simp [results, Tryz.results96, kindVal], by rw [HS.out], HB.out⟩
theorem tok_text (k i q : Int) (s : ByteArray) (w : World) : (Instr.field 80 (.agg #[.int .i64 k, .string s, .int .i64 i, .int .i64 q]) 1).run Tryz.prog w = .ok (.string s) w := by kernel_rfl
theorem tok_int (k i q : Int) (s : ByteArray) (w : World) : (Instr.field 80 (.agg #[.int .i64 k, .string s, .int .i64 i, .int .i64 q]) 2).run Tryz.prog w = .ok (.int .i64 i) w := by kernel_rfl
/-- the name that stands with a Kind -/
def nameOfV (k : Int) (l : List Tok) : Except (List Tok) (ByteArray × List Tok) := if namedB k then nameV l else .ok (ByteArray.empty, l)
def NamePost (w : World) (g : Nat) (A : Option Addr) (c : Nat) (all : List Tok) (fin : Int) (r : Except (List Tok) (ByteArray × List Tok)) (e : Ending) (w' : World) : Prop := match r with
  | .ok p => e = .returned (.string p.1) ∧ Went w g A c all fin p.2 w'
  | .error l' => ThrewR w g (placeV l' fin) e w'
theorem Went.here {w w' : World} {g c p : Nat} {A : Option Addr} {all : List Tok} {fin : Int} (h : RdIn w g A c all fin p) (hb : Below w.heap.size w w') : Went w g A c all fin (all.drop p) w' := ⟨p, rfl, h.after hb, grown_below hb _⟩
set_option maxHeartbeats 800000 in
set_option maxRecDepth 20000 in
theorem nameOf_any (w : World) (g c p : Nat) (A : Option Addr) (all : List Tok) (fin : Int) (h : RdIn w g A c all fin p) (hE : ExprEnv w) (k : Int) (h1 : 1 ≤ k) (h2 : k ≤ 34) :
    Calls Tryz.prog 134 #[.pointer (some ⟨g, 0, none⟩), .int .i64 k] w (NamePost w g A c all fin (nameOfV k (all.drop p))) := by
  obtain ⟨-, c4⟩ := sign_facts hE h1 h2
  have HT : Hid (Calls Tryz.prog 142 #[.pointer (some ⟨g, 0, none⟩), .int .i64 3] w (TakePost w g A c all fin 3 (all.drop p))) := Lib.hid (take_any w g c p A all fin 3 h)
  have HR := Lib.hid h
  have g1 : 0 ≤ k := by omega
  have g2 : k < 35 := by omega
  clear h hE h1 h2
  have e0 : nameOfV k (all.drop p) = if namedB k then nameV (all.drop p) else .ok (ByteArray.empty, all.drop p) := rfl
  cases hn : namedB k with
  | false =>
    rw [e0, hn, if_neg (by decide)]
    rw [hn] at c4
    clear hn e0
    go_enter Tryz.func134, Tryz.ntmps134
    go_wp2_with fail
    go_ret
    exact ⟨rfl, Went.here HR.out (Below.refl _ _)⟩
  | true =>
    rw [e0, hn, if_pos rfl]
    rw [hn] at c4
    clear hn e0
    cases hl : all.drop p with
    | nil =>
      rw [hl] at HT
      have e1 : nameV [] = .error [] := rfl
      rw [e1]
      clear hl e1
      go_enter Tryz.func134, Tryz.ntmps134
      go_wp2_with (go_at_call 142; refine HT.out.mono ?_; rintro e w1 ⟨rfl, hg1⟩)
      exact ⟨rfl, rfl, hg1⟩
    | cons t r =>
      rw [hl] at HT
      clear hl
      by_cases h3 : t.kind = 3
      · have HT2 : Hid (Calls Tryz.prog 142 #[.pointer (some ⟨g, 0, none⟩), .int .i64 3] w (fun e w' => e = .returned (tokVal t) ∧ Went w g A c all fin r w')) := Lib.hid (HT.out.mono fun e w' hh => by
          have hh' : if t.kind = 3 then _ else _ := hh
          rwa [if_pos h3] at hh')
        have e1 : nameV (t :: r) = .ok (t.text, r) := if_pos h3
        rw [e1]
        clear HT h3 e1
        unfold tokVal at HT2
        have hfd := fun w => tok_text t.kind t.int t.place t.text w
        go_enter Tryz.func134, Tryz.ntmps134
        go_wp2_with (go_at_call 142; refine HT2.out.mono ?_; rintro e w1 ⟨rfl, hw1⟩; have HW := Lib.hid hw1; clear hw1)
        go_ret
        exact ⟨rfl, HW.out⟩
      · have HT2 : Hid (Calls Tryz.prog 142 #[.pointer (some ⟨g, 0, none⟩), .int .i64 3] w (ThrewR w g (placeV (t :: r) fin))) := Lib.hid (HT.out.mono fun e w' hh => by
          have hh' : if t.kind = 3 then _ else _ := hh
          rwa [if_neg h3] at hh')
        have e1 : nameV (t :: r) = .error (t :: r) := if_neg h3
        rw [e1]
        clear HT h3 e1
        go_enter Tryz.func134, Tryz.ntmps134
        go_wp2_with (go_at_call 142; refine HT2.out.mono ?_; rintro e w1 ⟨rfl, hg1⟩)
        exact ⟨rfl, rfl, hg1⟩
end Go.Proofs.YtckfcpiedainfaaGreatDoor
namespace Go.Proofs.YtckfcpiedainfaaGreatDoor
open Go Go.RowKit Go.Sort
set_option linter.unusedVariables false
/-- a tree is made -/
def NewT (w : World) (B : Nat) (t : Tr) (e : Ending) (w' : World) : Prop := ∃ b, e = .returned (.pointer (some ⟨b, 0, none⟩)) ∧ w.heap.size ≤ b ∧ TIn w' B b t ∧ Below w.heap.size w w'
theorem prow_form {w : World} {B : Nat} {v : Value} {ps : List Value} (h : PRow w B v ps) : ∃ A c, v = .slice A ps.length c ∧ ∀ j p, ps[j]? = some p → ∃ q, A = some ⟨q, 0, none⟩ ∧ w.cell? ⟨q, j, none⟩ = some p := by
  rcases h with ⟨rfl, rfl⟩ | ⟨q, h1, rfl, h3⟩
  · exact ⟨none, 0, rfl, fun j p hj => by simp at hj⟩
  · exact ⟨_, _, rfl, fun j p hj => ⟨q, rfl, by rw [h3.cell j]; simpa using hj⟩⟩
theorem tsIn_drop {w : World} {B : Nat} {rest : Fo} {ps : List Value} {j : Nat} {p : Value} (h : TsIn w B rest (ps.drop j)) (hp : ps[j]? = some p) : ∃ b t r, p = .pointer (some ⟨b, 0, none⟩) ∧ rest = .cons t.k t.s t.i t.a r ∧ TIn w B b t ∧ TsIn w B r (ps.drop (j + 1)) := by
  have hlt := (List.getElem?_eq_some_iff.1 hp).1
  rw [List.drop_eq_getElem_cons hlt, (List.getElem?_eq_some_iff.1 hp).2] at h
  cases rest with
  | nil => exact absurd (show _ = _ from h) (by simp)
  | cons k s i a r =>
    obtain ⟨b, v, qs, ps', e, hb, h1, h2, h3, h4⟩ := h
    injection e with e1 e2
    subst e1; subst e2
    exact ⟨b, ⟨k, s, i, a⟩, r, rfl, rfl, ⟨v, qs, hb, h1, h2, h3⟩, h4⟩
theorem tsIn_end {w : World} {B : Nat} {rest : Fo} {ps : List Value} {j : Nat} (h : TsIn w B rest (ps.drop j)) (hj : ps.length ≤ j) : rest = .nil := by
  rw [List.drop_eq_nil_of_le hj] at h
  cases rest with
  | nil => rfl
  | cons k s i a r =>
    obtain ⟨b, v, qs, ps', e, _⟩ := h
    cases e
structure NtI (w : World) (B : Nat) (k : Int) (s : ByteArray) (v : Value) (f : Fo) (ps : List Value) (j : Nat) (wr : World) (rest : Fo) (sz d : Nat) : Prop where
  ts : TsIn w B rest (ps.drop j)
  hsz : sz + rest.size = 1 + f.size
  hdp : max d (1 + rest.depth) = 1 + f.depth
  h1 : 1 ≤ d
  bl : Below w.heap.size w wr
  bk : Blk wr w.heap.size 55 #[.int .i64 k, .string s, .int .i64 0, .slice none 0 0, v, .int .i64 (sz : Int), .int .i64 (d : Int)]
theorem fo_depth1 (k : Int) (s : ByteArray) (i : Int) (a r : Fo) : (Fo.cons k s i a r).depth = max (1 + a.depth) r.depth := rfl
theorem fo_size1 (k : Int) (s : ByteArray) (i : Int) (a r : Fo) : (Fo.cons k s i a r).size = 1 + a.size + r.size := rfl
set_option maxHeartbeats 1600000 in
set_option maxRecDepth 20000 in
theorem newTree_any (w : World) (B : Nat) (k : Int) (s : ByteArray) (v : Value) (f : Fo) (ps : List Value) (hv : PRow w B v ps) (ht : TsIn w B f ps) (hB : B ≤ w.heap.size) (hB0 : 0 < B) (hz : f.size ≤ 4000000) :
    Calls Tryz.prog 80 #[.int .i64 k, .string s, v] w (NewT w B ⟨k, s, 0, f⟩) := by
  obtain ⟨A, c, rfl, hcell⟩ := prow_form hv
  have HV := Lib.hid hv
  have HT := Lib.hid ht
  have HC := Lib.hid hcell
  have HZ : Hid (f.size ≤ 4000000 ∧ f.depth ≤ 4000000) := Lib.hid ⟨hz, Nat.le_trans (depth_size f) hz⟩
  have hl1 : ps.length = f.count := ht.len
  have hl2 : ps.length ≤ 4000000 := by
    have : ∀ f : Fo, f.count ≤ f.size := by
      intro f
      induction f with
      | nil => exact Nat.le_refl _
      | cons k s i a r _ ih => show 1 + r.count ≤ 1 + a.size + r.size; omega
    have := this f
    omega
  clear hv ht hcell hl1 hz
  go_enter Tryz.func80, Tryz.ntmps80
  go_wp2_with fail
  go_loopw [18, 9] (fun i kk wr => ∃ j : Nat, j ≤ ps.length ∧ i = .int .i64 j ∧ Hid (∃ rest sz d, NtI w B k s (.slice A ps.length c) f ps j wr rest sz d)) (fun i _ _ => ps.length - (intOf i).toNat)
  case atStart => exact ⟨0, Nat.zero_le _, rfl, Lib.hid ⟨f, 1, 1, by simpa using HT.out, rfl, by omega, Nat.le_refl _, below_of_alloc _, Blk.new' rfl⟩⟩
  case round =>
    obtain ⟨j, hj, rfl, HI⟩ := hrel
    rename World => wr
    obtain ⟨rest, sz, d, hI⟩ := HI.out
    by_cases hlt : j < ps.length
    · obtain ⟨p, hp⟩ : ∃ p, ps[j]? = some p := ⟨ps[j], List.getElem?_eq_getElem hlt⟩
      obtain ⟨q, rfl, hq⟩ := HC.out j p hp
      obtain ⟨b, t, r, rfl, rfl, hT, hR⟩ := tsIn_drop hI.ts hp
      have d0 : decide ((j : Int) < (ps.length : Int)) = true := decide_eq_true (by omega)
      have q1 := (hI.bl.cell (World.block_lt_of_cell? w _ hq)).trans hq
      obtain ⟨v', qs, hb, hbk, hpr, hts⟩ := hT
      have t5 := hbk.cell 5
      have t6 := hbk.cell 6
      simp [treeC] at t5 t6
      have T6 := Lib.hid t6
      replace t5 := (hI.bl.cell (World.block_lt_of_cell? w _ t5)).trans t5
      replace t6 := (hI.bl.cell (World.block_lt_of_cell? w _ t6)).trans t6
      have hbl : b < w.heap.size := hbk.lt
      have c5 := hI.bk.cell 5
      have c6 := hI.bk.cell 6
      have z5 := hI.bk.frozen 5
      have z6 := hI.bk.frozen 6
      simp at c5 c6
      have e1 := hI.hsz
      have e2 := hI.hdp
      rw [fo_size1] at e1
      rw [fo_depth1] at e2
      have hz1 := HZ.out.1
      have hz2 := HZ.out.2
      have w1 : IntKind.i64.wrap ((sz : Int) + ((1 : Int) + (t.a.size : Int))) = ((sz + (1 + t.a.size) : Nat) : Int) := by rw [IntWalk.i64_in _ (by omega)]; omega
      have w2 : IntKind.i64.wrap ((1 : Int) + (t.a.depth : Int) + 1) = (1 : Int) + (t.a.depth : Int) + 1 := IntWalk.i64_in _ (by omega)
      have HN : Hid (NtI w B k s (.slice (some ⟨q, 0, none⟩) ps.length c) f ps j wr (.cons t.k t.s t.i t.a r) sz d) := Lib.hid hI
      have HR := Lib.hid hR
      clear hI hR hts hpr hbk hp hq
      go_wp2_with fail
      have hb5 : Blk (wr.setCell ⟨w.heap.size, 5, none⟩ (.int .i64 ((sz : Int) + ((1 : Int) + (t.a.size : Int))))).drew w.heap.size 55 #[.int .i64 k, .string s, .int .i64 0, .slice none 0 0, .slice (some ⟨q, 0, none⟩) ps.length c, .int .i64 ((sz : Int) + ((1 : Int) + (t.a.size : Int))), .int .i64 (d : Int)] := by
        have := HN.out.bk.set_ 5 (.int .i64 ((sz : Int) + ((1 : Int) + (t.a.size : Int))))
        simp at this
        exact Blk.drewN this 1
      have hl5 : Below w.heap.size w (wr.setCell ⟨w.heap.size, 5, none⟩ (.int .i64 ((sz : Int) + ((1 : Int) + (t.a.size : Int))))).drew := below_drew (HN.out.bl.setCell (p := ⟨w.heap.size, 5, none⟩) (Nat.le_refl _) _)
      have t6' : w.cell? ⟨b, 6, none⟩ = some (.int .i64 ((1 : Int) + (t.a.depth : Int))) := T6.out
      go_still_tail 11, (by kernel_rfl)
      go_wp2_with fail
      clear t5 t6 c5 c6 z5 z6 q1
      generalize (wr.setCell ⟨w.heap.size, 5, none⟩ (.int .i64 ((sz : Int) + ((1 : Int) + (t.a.size : Int))))).drew = W at hb5 hl5 ⊢
      have c6 := hb5.cell 6
      have z6 := hb5.frozen 6
      simp at c6
      have t6 := (hl5.cell (World.block_lt_of_cell? w _ t6')).trans t6'
      have HB5 := Lib.hid hb5
      have HL5 := Lib.hid hl5
      clear hb5 hl5
      go_still_tail 13, (by kernel_rfl)
      go_wp2_with fail
      have em : max (d : Int) ((1 : Int) + (t.a.depth : Int) + 1) = ((max d (1 + t.a.depth + 1) : Nat) : Int) := by omega
      have es : (sz : Int) + ((1 : Int) + (t.a.size : Int)) = ((sz + (1 + t.a.size) : Nat) : Int) := by omega
      have hl6 : Below w.heap.size w (W.setCell ⟨w.heap.size, 6, none⟩ (.int .i64 (max (d : Int) ((1 : Int) + (t.a.depth : Int) + 1)))).drew := below_drew (HL5.out.setCell (p := ⟨w.heap.size, 6, none⟩) (Nat.le_refl _) _)
      have hb6 : Blk (W.setCell ⟨w.heap.size, 6, none⟩ (.int .i64 (max (d : Int) ((1 : Int) + (t.a.depth : Int) + 1)))).drew w.heap.size 55 #[.int .i64 k, .string s, .int .i64 0, .slice none 0 0, .slice (some ⟨q, 0, none⟩) ps.length c, .int .i64 ((sz + (1 + t.a.size) : Nat) : Int), .int .i64 ((max d (1 + t.a.depth + 1) : Nat) : Int)] := by
        have := HB5.out.set_ 6 (.int .i64 (max (d : Int) ((1 : Int) + (t.a.depth : Int) + 1)))
        rw [em] at this ⊢
        rw [es] at this
        exact Blk.drewN this 1
      have hd1 := HN.out.h1
      go_roundw
      case measure => simp only [intOf]; omega
      case rel => exact ⟨j + 1, by omega, by simp, Lib.hid ⟨r, sz + (1 + t.a.size), max d (1 + t.a.depth + 1), HR.out, by omega, by omega, by omega, hl6, hb6⟩⟩
    · have d0 : decide ((j : Int) < (ps.length : Int)) = false := decide_eq_false (by omega)
      have hjn : j = ps.length := by omega
      have hr := tsIn_end hI.ts (by omega)
      subst hr
      have e1 : sz = 1 + f.size := hI.hsz
      have e2 : d = 1 + f.depth := by have h1 := hI.h1; have h2 := hI.hdp; have : (Fo.nil).depth = 0 := rfl; omega
      subst e1; subst e2
      have HN := Lib.hid hI
      clear hI
      go_wp2_with fail
      go_ret
      exact ⟨w.heap.size, rfl, Nat.le_refl _, ⟨.slice A ps.length c, ps, hB, HN.out.bk, by
        exact HV.out.kept (g := 0) ⟨HN.out.bl.os, HN.out.bl.tape, HN.out.bl.output, HN.out.bl.size, fun k hk _ => HN.out.bl.block k hk⟩ hB0, TsIn.kept (g := 0) ⟨HN.out.bl.os, HN.out.bl.tape, HN.out.bl.output, HN.out.bl.size, fun k hk _ => HN.out.bl.block k hk⟩ hB0 HT.out⟩, HN.out.bl⟩
set_option maxHeartbeats 800000 in
set_option maxRecDepth 20000 in
theorem newInt_any (w : World) (B : Nat) (i : Int) (hB : B ≤ w.heap.size) (hB0 : 0 < B) :
    Calls Tryz.prog 141 #[.int .i64 i] w (NewT w B (.leaf 1 ByteArray.empty i)) := by
  have HN := Lib.hid (newTree_any w B 1 { data := #[] } (.slice none 0 0) .nil [] (.inl ⟨rfl, rfl⟩) rfl hB hB0 (Nat.zero_le _))
  go_enter Tryz.func141, Tryz.ntmps141
  go_wp2_with (go_at_call 80; refine HN.out.mono ?_; rintro e w1 ⟨b, rfl, hb, ⟨v, qs, hBb, hbk, hpr, hts⟩, hbel⟩; have HK := Lib.hid hbk; have HBEL := Lib.hid hbel; have HPR := Lib.hid (And.intro hb (And.intro hBb hpr)); have HTS := Lib.hid hts; have z2 := hbk.frozen 2; have c2 := (hbk.cell 2).trans (show _ = some (.int .i64 0) from rfl); clear hbk hbel hpr hts hb hBb)
  have hqs : qs = [] := HTS.out
  subst hqs
  have hpr : PRow (w1.setCell ⟨b, 2, none⟩ (.int .i64 i)) B v [] := by
    rcases HPR.out.2.2 with hp | ⟨q, h1, h2, h3⟩
    · exact .inl hp
    · refine .inr ⟨q, h1, h2, h3.far ?_ _⟩
      intro e
      have e' : q = b := by simpa using e
      subst e'
      have h4 := HK.out
      unfold Blk at h3 h4
      rw [h3] at h4
      simp [treeC] at h4
  have hbk2 : Blk (w1.setCell ⟨b, 2, none⟩ (.int .i64 i)) b 55 (treeC 1 ByteArray.empty i v .nil) := by
    have := HK.out.set_ 2 (.int .i64 i)
    exact this
  go_ret
  exact ⟨b, rfl, HPR.out.1, ⟨v, [], HPR.out.2.1, hbk2, hpr, rfl⟩, HBEL.out.setCell (p := ⟨b, 2, none⟩) HPR.out.1 _⟩
end Go.Proofs.YtckfcpiedainfaaGreatDoor

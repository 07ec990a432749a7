/-
  WALKS over package lex: isMark, a name's token, what stands apart, an int's digits, blanks.
  WALKS over package lex: how far a name, an int goes (the closure of newReader).
  WALKS over package lex: a token in one; Scan.
  WALKS over package lex: Scan.
  THE LIBRARY's AND PACKAGE lex's VARIABLES as the rows list them: what that gives the walks; a start in which they lie so.
  WALKS over package lex: which tokens may be; a token's form.
-/
import Derived.Test.YtjlpoigcalfdlaaDoorZB4
import Derived.Deep.DeepMust
import Derived.Laws.CopyOwn
import Derived.WalkMore
import Derived.Deep.RegionHeld3
import Derived.Deep.WholeRow
import Derived.Test.YtjlpoigcalfdlaaDoorCards
import Derived.Test.YtjlpoigcalfdlaaDoorTie
import Derived.ProofKit
import Derived.OpenShut
import Derived.Deep.DeepHandedRow
import Derived.Deep.DeepWitnessRowRef
import Derived.Stop.LaidErr
import Derived.SizedLaws
namespace Go.Proofs.YtjlpoigcalfdlaaDoor
open Go Go.RowKit
set_option linter.unusedVariables false
/-- a yes or no, the tape drawn from at most -/
def SaysD (w : World) (b : Bool) (e : Ending) (w' : World) : Prop := e = .returned (.bool b) ∧ ∃ q, w' = w.drewN q
theorem nil_test (x : ByteArray) : (x.toList == []) = decide (x.data.toList = []) := by
  rw [Lib.toList_data, Bool.eq_iff_iff]; simp
theorem str_test (x y : ByteArray) : (x.toList == y.toList) = decide (x.data.toList = y.data.toList) := by
  rw [Lib.toList_data, Lib.toList_data, Bool.eq_iff_iff]; simp
set_option maxHeartbeats 800000 in
theorem isMark_any (s : ByteArray) (w : World) (hs : s.size ≤ maxLen) (hE : LexEnv w) : Calls Tryd.prog 75 #[.string s] w (SaysD w (markB s.data.toList)) := by
  have H : Hid (Calls Tryd.prog 80 #[.string s] w (MarksTold w (ahead s.data.toList))) := Lib.hid (markAhead_any s w hs hE)
  have hM := isMark_is s.data.toList
  obtain ⟨r, hr⟩ : ∃ r, ahead s.data.toList = r := ⟨_, rfl⟩
  obtain ⟨l, n⟩ := r
  rw [hr] at H hM
  simp only at hM
  obtain ⟨P, hP⟩ : ∃ P, ba l = P := ⟨_, rfl⟩
  have hPl : P.data.toList = l := by rw [← hP, ba_data]
  rw [← hPl] at hM
  have HM := Lib.hid hM
  clear hs hE hr hM
  have H' : Hid (Calls Tryd.prog 80 #[.string s] w (fun e w' => e = .returned (.tuple #[.string P, .int .i64 n]) ∧ ∃ q, w' = w.drewN q)) := Lib.hid (H.out.mono fun e w' ⟨he, hq⟩ => ⟨by rw [he]; simp only [hP], hq⟩)
  clear H hP hPl
  cases e1 : decide (P.data.toList = []) with
  | true =>
    have HN : Hid (markB s.data.toList = false) := Lib.hid (by rw [← HM.out]; simp at e1; simp [e1])
    have e1' : (P.toList == []) = true := by rw [nil_test]; exact e1
    clear e1
    go_enter Tryd.func75, Tryd.ntmps75
    go_wp2_with (go_at_call 80; refine H'.out.mono ?_; rintro e w' ⟨rfl, q, rfl⟩)
    go_ret
    exact ⟨ret_bool HN.out.symm, q, rfl⟩
  | false =>
    have HN : Hid (markB s.data.toList = (P.toList == s.toList)) := Lib.hid (by rw [← HM.out, str_test]; simp at e1; simp [e1])
    have e1' : (P.toList == []) = false := by rw [nil_test]; exact e1
    clear e1
    go_enter Tryd.func75, Tryd.ntmps75
    go_wp2_with (go_at_call 80; refine H'.out.mono ?_; rintro e w' ⟨rfl, q, rfl⟩)
    all_goals go_ret
    all_goals exact ⟨ret_bool HN.out.symm, q, rfl⟩
def past (r : List UInt8) : Nat := (r.takeWhile blank).length
theorem past_nil : past [] = 0 := rfl
theorem past_blank {c : UInt8} {t : List UInt8} (h : blank c = true) : past (c :: t) = past t + 1 := by simp [past, h]
theorem past_other {c : UInt8} {t : List UInt8} (h : blank c = false) : past (c :: t) = 0 := by simp [past, h]
theorem past_le (r : List UInt8) : past r ≤ r.length := by
  unfold past; exact (List.takeWhile_sublist _).length_le
structure PastAt (S : List UInt8) (p k : Nat) : Prop where
  out : p + past (S.drop p) = k + past (S.drop k)
structure PastIs (S : List UInt8) (p k : Nat) : Prop where
  out : ((p + past (S.drop p) : Nat) : Int) = (k : Int)
theorem PastAt.step {s : ByteArray} {p k : Nat} (h : PastAt s.data.toList p k) (hk : k < s.size) (hb : blank s[k] = true) : PastAt s.data.toList p (k + 1) := by
  have := h.out
  rw [drop_get s k hk, past_blank hb] at this
  exact ⟨by omega⟩
theorem PastAt.stop {s : ByteArray} {p k : Nat} (h : PastAt s.data.toList p k) (hk : k < s.size) (hb : blank s[k] = false) : PastIs s.data.toList p k := by
  have := h.out
  rw [drop_get s k hk, past_other hb] at this
  exact ⟨by omega⟩
theorem PastAt.fin {s : ByteArray} {p k : Nat} (h : PastAt s.data.toList p k) (hk : s.size ≤ k) : PastIs s.data.toList p k := by
  have := h.out
  rw [drop_none s k (by omega), past_nil] at this
  exact ⟨by omega⟩
def tokV (k : Tok) : Value := .agg #[.int .i64 k.kind, .string k.text, .int .i64 k.int, .int .i64 k.place]
end Go.Proofs.YtjlpoigcalfdlaaDoor
namespace Go.Proofs.YtjlpoigcalfdlaaDoor
open Go Go.RowKit
set_option linter.unusedVariables false
/-- so far -/
structure FarAt (P : List UInt8 → Bool) (r : List UInt8) (n : Nat) : Prop where
  out : farN P r n = far P r
theorem FarAt.no {P : List UInt8 → Bool} {r : List UInt8} {n p : Nat} (h : FarAt P r n) (hp : P (r.take (n + 1)) = false) : ((p + n : Nat) : Int) = ((p + far P r : Nat) : Int) := by rw [← h.out, farN_no hp]
theorem FarAt.fin {P : List UInt8 → Bool} {r : List UInt8} {n p : Nat} (h : FarAt P r n) (hn : ¬ n < r.length) : ((p + n : Nat) : Int) = ((p + far P r : Nat) : Int) := by rw [← h.out, farN_end hn]
def Tells1 (w : World) (b : Bool) (e : Ending) (w' : World) : Prop := e = .returned (.bool b) ∧ Below w.heap.size w w'
end Go.Proofs.YtjlpoigcalfdlaaDoor
namespace Go.Proofs.YtjlpoigcalfdlaaDoor
open Go Go.RowKit
set_option linter.unusedVariables false
def tokCells (k : Tok) : List Value := [.int .i64 k.kind, .string k.text, .int .i64 k.int, .int .i64 k.place]
theorem tokCells_len (k : Tok) : (tokCells k).length = 4 := rfl
def toksCells (l : List Tok) : List Value := l.flatMap tokCells
theorem toksCells_len (l : List Tok) : (toksCells l).length = l.length * 4 := flatN_len tokCells_len l
/-- the slice holds these tokens, in memory of the call's own -/
def OwnT (w : World) (B : Nat) (v : Value) (l : List Tok) : Prop := w.ownsRow B 105 4 v l.length (toksCells l)
theorem OwnT.nil (w : World) (B : Nat) : OwnT w B (.slice none 0 0) [] := World.ownsRow_nil w B _ _
/-- what Scan tells of a text -/
def scanR (S : List UInt8) : List Tok × Nat × Int :=
  if 4096 < S.length then ([], 0, 3) else match scanT 0 S with
    | (some l, _) => (l, 0, 0)
    | (none, n) => ([], n, 70)
def comb (acc : List Tok) : Option (List Tok) × Nat → Option (List Tok) × Nat
  | (some l, n) => (some (acc ++ l), n)
  | (none, e) => (none, e)
theorem scanT_past (S : List UInt8) (p : Nat) : ∀ (d : Nat) (r : List UInt8), r.length ≤ d → scanT p r = scanT (p + past r) (r.drop (past r)) := by
  intro d
  induction d generalizing p with
  | zero =>
    intro r hd
    obtain rfl : r = [] := List.length_eq_zero_iff.1 (by omega)
    rfl
  | succ d ih =>
    intro r hd
    cases r with
    | nil => rfl
    | cons c t =>
      cases hb : blank c with
      | true => rw [scanT_blank hb, past_blank hb, ih (p + 1) t (by simp at hd; omega), List.drop_succ_cons]; congr 1; omega
      | false => rw [past_other hb]; rfl
theorem past_stop (r : List UInt8) : ∀ c t, r.drop (past r) = c :: t → blank c = false := by
  induction r with
  | nil => intro c t h; simp at h
  | cons d r ih =>
    intro c t h
    cases hb : blank d with
    | true => rw [past_blank hb, List.drop_succ_cons] at h; exact ih c t h
    | false => rw [past_other hb] at h; simp at h; rw [← h.1]; exact hb
/-- so far: these tokens, at a place where no blank stands -/
structure ScanAt (S : List UInt8) (acc : List Tok) (p : Nat) : Prop where
  le : p ≤ S.length
  out : scanT 0 S = comb acc (scanT p (S.drop p))
  front : ∀ c t, S.drop p = c :: t → blank c = false
  few : acc.length ≤ p
theorem comb_nil (x : Option (List Tok) × Nat) : comb [] x = x := by
  obtain ⟨o, n⟩ := x
  cases o <;> rfl
theorem ScanAt.start (S : List UInt8) : ScanAt S [] (0 + past (S.drop 0)) := by
  rw [List.drop_zero, Nat.zero_add]
  refine ⟨past_le S, ?_, past_stop S, Nat.zero_le _⟩
  rw [comb_nil]
  have := scanT_past S 0 S.length S (Nat.le_refl _)
  rwa [Nat.zero_add] at this
theorem ScanAt.bad {S : List UInt8} {acc : List Tok} {p n : Nat} (h : ScanAt S acc p) (hp : p < S.length) (hk : lexT (S.drop p) = (none, n)) (h4 : S.length ≤ 4096) : scanR S = ([], p + n, 70) := by
  unfold scanR
  rw [if_neg (by omega), h.out]
  cases hd : S.drop p with
  | nil => have := congrArg List.length hd; rw [List.length_drop] at this; simp at this; omega
  | cons c t =>
    rw [hd] at hk
    rw [scanT_bad (h.front c t hd) hk]; rfl
theorem ScanAt.fin {S : List UInt8} {acc : List Tok} {p : Nat} (h : ScanAt S acc p) (hp : ¬ p < S.length) (h4 : S.length ≤ 4096) : scanR S = (acc, 0, 0) := by
  unfold scanR
  rw [if_neg (by omega), h.out, List.drop_eq_nil_of_le (by omega), scanT_nil]
  simp [comb]
end Go.Proofs.YtjlpoigcalfdlaaDoor
namespace Go.Proofs.YtjlpoigcalfdlaaDoor
open Go Go.RowKit
set_option linter.unusedVariables false
theorem own_form {w : World} {B size n : Nat} {e : TypeId} {v : Value} {xs : List Value} (h : w.ownsRow B e size v n xs) : ∃ A c, v = .slice A n c := by
  rcases h.2 with ⟨rfl, rfl⟩ | ⟨g, cap, _, rfl, _⟩
  · exact ⟨none, 0, rfl⟩
  · exact ⟨_, _, rfl⟩
theorem OwnT.alloc {w : World} {B : Nat} {v : Value} {l : List Tok} (h : OwnT w B v l) (o : Obj) : OwnT (w.alloc o) B v l := World.ownsRow.alloc h o
end Go.Proofs.YtjlpoigcalfdlaaDoor
namespace Go.Proofs.YtjlpoigcalfdlaaDoor
open Go Go.ChangeShapes Go.WideShapes Go.ChangeAt Go.RowKit
set_option linter.unusedVariables false
theorem own : ownKnob Tryd.prog.godebug = none := by kernel_rfl
theorem gTabType : (Tryd.prog.globals[4]?).map (·.type) = some 136 := by kernel_rfl
theorem gWords : Tryd.prog.globalNamed "topiary/lex.words" = some 2 := by kernel_rfl
theorem gMarks : Tryd.prog.globalNamed "topiary/lex.marks" = some 3 := by kernel_rfl
theorem gWordsType : (Tryd.prog.globals[2]?).map (·.type) = some 123 := by kernel_rfl
theorem gMarksType : (Tryd.prog.globals[3]?).map (·.type) = some 128 := by kernel_rfl
theorem cellsStr : Tryd.prog.cellsOf 9 = 1 := by kernel_rfl
theorem cellsU64 : Tryd.prog.cellsOf 101 = 1 := by kernel_rfl
theorem cellsTab : Tryd.prog.cellsOf 136 = 20 := by kernel_rfl
theorem cellsWords : Tryd.prog.cellsOf 123 = 22 := by kernel_rfl
theorem cellsMarks : Tryd.prog.cellsOf 128 = 16 := by kernel_rfl
/-- an array of strings as a row lists it -/
def strData {H : Type} (l : List (List UInt8)) : DataW H := .agg (l.map fun m => .lit (.string m))
theorem cells_of_strs {H : Type} {enc : TypeId × Value → H} {P : Program} {w : World} {base : Nat} {sp : Nat → Bool} {held : Bool} {fuel : Nat} {t e : TypeId} {n : Nat} {cs : List Value} {l : List (List UInt8)} {p : List MemPlace}
    (ht : P.underlying t = some (.array n e)) (he : P.underlying e = some .string) (hce : P.cellsOf e = 1) (hct : P.cellsOf t = n)
    (h : DataW.trod enc P w base sp held fuel t cs = some (strData l, p)) : cs = l.map fun m => Value.string (ba m) := by
  cases fuel with
  | zero => simp [DataW.trod] at h
  | succ fuel =>
    simp only [DataW.trod, ht, hce, hct, Nat.mul_one] at h
    split at h
    · rename_i hl
      obtain ⟨xs, hm, hx⟩ := Option.map_eq_some_iff.1 h
      have hxs : xs.map (·.1) = l.map fun m => (DataW.lit (.string m) : DataW H) := by
        have := congrArg Prod.fst hx
        simpa [strData] using this
      have hxl : xs.length = n := by simpa using Lib.mapM_length hm
      have hzl : l.length = n := by
        have := congrArg List.length hxs
        simp at this
        omega
      apply List.ext_getElem?
      intro i
      by_cases hi : i < n
      · obtain ⟨b, hb, hf⟩ := Lib.mapM_at hm i i (by simp [hi])
        obtain ⟨z, hc, rfl, _⟩ := DataW.trod_string he hf
        have h1 : cs[i]? = some (.string z) := by
          have := congrArg (·[0]?) hc
          simpa [List.getElem?_take, List.getElem?_drop] using this
        have h2 : (xs.map (·.1))[i]? = some (DataW.lit (.string z.data.toList) : DataW H) := by simp [hb]
        rw [hxs] at h2
        simp only [List.getElem?_map, Option.map_eq_some_iff, DataW.lit.injEq, Lit.string.injEq] at h2
        obtain ⟨z', hz', rfl⟩ := h2
        simp [h1, hz', ba_list']
      · rw [List.getElem?_eq_none (by omega), List.getElem?_eq_none (by simp; omega)]
    · cases h
theorem strs_of_head {W : World} {name : String} {l : List (List UInt8)} {rest : List (String × DataW Unit)} {g : Nat} {t e : TypeId} {n : Nat}
    (hg : Tryd.prog.globalNamed name = some g) (hty : (Tryd.prog.globals[g]?).map (·.type) = some t) (ht : Tryd.prog.underlying t = some (.array n e)) (he : Tryd.prog.underlying e = some .string) (hce : Tryd.prog.cellsOf e = 1) (hct : Tryd.prog.cellsOf t = n)
    (h : laidMet Tryd.prog ((name, strData l) :: rest) W) : ∃ t fr, W.heap[g]? = some (.cells (strsV l) t fr) := by
  obtain ⟨ps, ⟨g', t', cs, fuel, p, q, hg', ht', hvar, hd, _, _⟩, _⟩ := h
  obtain rfl := Option.some.inj (hg.symm.trans hg')
  obtain rfl := Option.some.inj (hty.symm.trans ht')
  have hcs := cells_of_strs ht he hce hct hd
  unfold World.var? at hvar
  simp only [hg, Option.bind_some] at hvar
  split at hvar
  · rename_i cs' t2 fr hh
    refine ⟨t2, fr, ?_⟩
    rw [hh]
    have : cs' = strsV l := by
      obtain rfl := Option.some.inj hvar
      unfold strsV
      rw [← hcs]
    rw [this]
  · cases hvar
def put (cs : Array Value) : Obj → Obj
  | .cells _ t frozen => .cells cs t frozen
  | o => o
end Go.Proofs.YtjlpoigcalfdlaaDoor
namespace Go.Proofs.YtjlpoigcalfdlaaDoor
open Go Go.RowKit
set_option linter.unusedVariables false
theorem saysD_bel {w w' : World} {b : Bool} {e : Ending} (h : SaysD w b e w') : Tells1 w b e w' := by
  obtain ⟨he, q, rfl⟩ := h
  exact ⟨he, below_drewN (Below.refl _ _) q⟩
/-- what is asked of a token's text -/
structure TextIs (T : ByteArray) (R Wd Mk : Bool) (w : World) : Prop where
  right : ∀ Y, Below w.heap.size w Y → Calls Tryd.prog 73 #[.string T] Y (Says Y R)
  word : ∀ Y, Below w.heap.size w Y → Calls Tryd.prog 74 #[.string T] Y (Says Y Wd)
  mark : ∀ Y, Below w.heap.size w Y → Calls Tryd.prog 75 #[.string T] Y (Tells1 Y Mk)
theorem textIs (T : ByteArray) (w : World) (hs : T.size ≤ maxLen) (hL : LexEnv w) : TextIs T (right T.data.toList) (wordB T.data.toList) (markB T.data.toList) w :=
  ⟨fun Y _ => right_any T Y hs, fun Y h => reserved_any T Y hs (hL.below h), fun Y h => (isMark_any T Y hs (hL.below h)).mono fun e w' h => saysD_bel h⟩
/-- the token that may be, by what is asked of its text -/
def mayV (kd n : Int) (E R Wd Mk : Bool) : Bool :=
  if kd = 1 then decide (0 ≤ n) && E else if kd = 2 then decide (n = 0) else if kd = 3 then decide (n = 0) && R && !Wd else if kd = 4 then decide (n = 0) && Wd else if kd = 5 then decide (n = 0) && Mk else false
theorem mayV_is (k : Tok) : mayV k.kind k.int (decide (k.text.data.toList = [])) (right k.text.data.toList) (wordB k.text.data.toList) (markB k.text.data.toList) = may k := rfl
theorem tells1 {w w' : World} {a b : Bool} (h : a = b) (hb : Below w.heap.size w w') : Tells1 w b (.returned (.bool a)) w' := ⟨by rw [h], hb⟩
set_option maxHeartbeats 3200000 in
theorem mayBe_v (kd n pl : Int) (T : ByteArray) (E R Wd Mk : Bool) (w : World) (hE : (T.toList == []) = E) (HT : TextIs T R Wd Mk w) :
    Calls Tryd.prog 69 #[.agg #[.int .i64 kd, .string T, .int .i64 n, .int .i64 pl]] w (Tells1 w (mayV kd n E R Wd Mk)) := by
  obtain ⟨X, hX⟩ : ∃ X, w.alloc (.cells #[.int .i64 kd, .string T, .int .i64 n, .int .i64 pl] 105) = X := ⟨_, rfl⟩
  have HX : Hid (Below w.heap.size w X) := Lib.hid (by rw [← hX]; exact (Below.refl _ _).alloc (Nat.le_refl _) _)
  have k0 : X.cell? ⟨w.heap.size, 0, none⟩ = some (.int .i64 kd) := by rw [← hX]; exact (Blk.new w _ _).cell 0
  have k1 : X.cell? ⟨w.heap.size, 1, none⟩ = some (.string T) := by rw [← hX]; exact (Blk.new w _ _).cell 1
  have k2 : X.cell? ⟨w.heap.size, 2, none⟩ = some (.int .i64 n) := by rw [← hX]; exact (Blk.new w _ _).cell 2
  by_cases h1 : kd = 1
  · subst h1
    have hm : mayV 1 n E R Wd Mk = (decide (0 ≤ n) && E) := rfl
    rw [hm]
    clear hm
    by_cases hn : 0 ≤ n
    · have hd2 : decide (0 ≤ n) = true := by simpa using hn
      rw [hd2]
      clear hd2
      cases E
      all_goals
        go_enter Tryd.func69, Tryd.ntmps69
        go_wp2_with (first | (go_at_call 73; refine (HT.right _ HX.out).mono ?_; rintro e w' ⟨rfl, rfl⟩) | (go_at_call 74; refine (HT.word _ HX.out).mono ?_; rintro e w' ⟨rfl, rfl⟩) | (go_at_call 75; refine (HT.mark _ HX.out).mono ?_; rintro e w2 ⟨rfl, hb2⟩))
        all_goals go_ret
        all_goals exact tells1 rfl HX.out
    · have hd2 : decide (0 ≤ n) = false := by simpa using hn
      rw [hd2]
      clear hd2
      go_enter Tryd.func69, Tryd.ntmps69
      go_wp2_with (first | (go_at_call 73; refine (HT.right _ HX.out).mono ?_; rintro e w' ⟨rfl, rfl⟩) | (go_at_call 74; refine (HT.word _ HX.out).mono ?_; rintro e w' ⟨rfl, rfl⟩) | (go_at_call 75; refine (HT.mark _ HX.out).mono ?_; rintro e w2 ⟨rfl, hb2⟩))
      all_goals go_ret
      all_goals exact tells1 rfl HX.out
  · by_cases h2 : kd = 2
    · subst h2
      have hm : mayV 2 n E R Wd Mk = (decide (n = 0)) := rfl
      rw [hm]
      clear hm h1
      by_cases hn : n = 0
      · subst hn
        go_enter Tryd.func69, Tryd.ntmps69
        go_wp2_with (first | (go_at_call 73; refine (HT.right _ HX.out).mono ?_; rintro e w' ⟨rfl, rfl⟩) | (go_at_call 74; refine (HT.word _ HX.out).mono ?_; rintro e w' ⟨rfl, rfl⟩) | (go_at_call 75; refine (HT.mark _ HX.out).mono ?_; rintro e w2 ⟨rfl, hb2⟩))
        all_goals go_ret
        all_goals exact tells1 rfl HX.out
      · have hd : (n == 0) = false := by rw [beq_eq_false_iff_ne]; exact hn
        have hd2 : decide (n = 0) = false := by simpa using hn
        rw [hd2]
        clear hd2 hn
        go_enter Tryd.func69, Tryd.ntmps69
        go_wp2_with (first | (go_at_call 73; refine (HT.right _ HX.out).mono ?_; rintro e w' ⟨rfl, rfl⟩) | (go_at_call 74; refine (HT.word _ HX.out).mono ?_; rintro e w' ⟨rfl, rfl⟩) | (go_at_call 75; refine (HT.mark _ HX.out).mono ?_; rintro e w2 ⟨rfl, hb2⟩))
        all_goals go_ret
        all_goals exact tells1 rfl HX.out
    · by_cases h3 : kd = 3
      · subst h3
        have hm : mayV 3 n E R Wd Mk = (decide (n = 0) && R && !Wd) := rfl
        rw [hm]
        clear hm h1 h2
        by_cases hn : n = 0
        · subst hn
          cases R <;> cases Wd
          all_goals
            go_enter Tryd.func69, Tryd.ntmps69
            go_wp2_with (first | (go_at_call 73; refine (HT.right _ HX.out).mono ?_; rintro e w' ⟨rfl, rfl⟩) | (go_at_call 74; refine (HT.word _ HX.out).mono ?_; rintro e w' ⟨rfl, rfl⟩) | (go_at_call 75; refine (HT.mark _ HX.out).mono ?_; rintro e w2 ⟨rfl, hb2⟩))
            all_goals go_ret
            all_goals exact tells1 rfl HX.out
        · have hd : (n == 0) = false := by rw [beq_eq_false_iff_ne]; exact hn
          have hd2 : decide (n = 0) = false := by simpa using hn
          rw [hd2]
          clear hd2 hn
          go_enter Tryd.func69, Tryd.ntmps69
          go_wp2_with (first | (go_at_call 73; refine (HT.right _ HX.out).mono ?_; rintro e w' ⟨rfl, rfl⟩) | (go_at_call 74; refine (HT.word _ HX.out).mono ?_; rintro e w' ⟨rfl, rfl⟩) | (go_at_call 75; refine (HT.mark _ HX.out).mono ?_; rintro e w2 ⟨rfl, hb2⟩))
          all_goals go_ret
          all_goals exact tells1 rfl HX.out
      · by_cases h4 : kd = 4
        · subst h4
          have hm : mayV 4 n E R Wd Mk = (decide (n = 0) && Wd) := rfl
          rw [hm]
          clear hm h1 h2 h3
          by_cases hn : n = 0
          · subst hn
            cases Wd
            all_goals
              go_enter Tryd.func69, Tryd.ntmps69
              go_wp2_with (first | (go_at_call 73; refine (HT.right _ HX.out).mono ?_; rintro e w' ⟨rfl, rfl⟩) | (go_at_call 74; refine (HT.word _ HX.out).mono ?_; rintro e w' ⟨rfl, rfl⟩) | (go_at_call 75; refine (HT.mark _ HX.out).mono ?_; rintro e w2 ⟨rfl, hb2⟩))
              all_goals go_ret
              all_goals exact tells1 rfl HX.out
          · have hd : (n == 0) = false := by rw [beq_eq_false_iff_ne]; exact hn
            have hd2 : decide (n = 0) = false := by simpa using hn
            rw [hd2]
            clear hd2 hn
            go_enter Tryd.func69, Tryd.ntmps69
            go_wp2_with (first | (go_at_call 73; refine (HT.right _ HX.out).mono ?_; rintro e w' ⟨rfl, rfl⟩) | (go_at_call 74; refine (HT.word _ HX.out).mono ?_; rintro e w' ⟨rfl, rfl⟩) | (go_at_call 75; refine (HT.mark _ HX.out).mono ?_; rintro e w2 ⟨rfl, hb2⟩))
            all_goals go_ret
            all_goals exact tells1 rfl HX.out
        · by_cases h5 : kd = 5
          · subst h5
            have hm : mayV 5 n E R Wd Mk = (decide (n = 0) && Mk) := rfl
            rw [hm]
            clear hm h1 h2 h3 h4
            by_cases hn : n = 0
            · subst hn
              cases Mk
              all_goals
                go_enter Tryd.func69, Tryd.ntmps69
                go_wp2_with (first | (go_at_call 73; refine (HT.right _ HX.out).mono ?_; rintro e w' ⟨rfl, rfl⟩) | (go_at_call 74; refine (HT.word _ HX.out).mono ?_; rintro e w' ⟨rfl, rfl⟩) | (go_at_call 75; refine (HT.mark _ HX.out).mono ?_; rintro e w2 ⟨rfl, hb2⟩))
                all_goals go_ret
                all_goals first | exact tells1 rfl HX.out | exact tells1 rfl (HX.out.trans (hb2.mono HX.out.size))
            · have hd : (n == 0) = false := by rw [beq_eq_false_iff_ne]; exact hn
              have hd2 : decide (n = 0) = false := by simpa using hn
              rw [hd2]
              clear hd2 hn
              go_enter Tryd.func69, Tryd.ntmps69
              go_wp2_with (first | (go_at_call 73; refine (HT.right _ HX.out).mono ?_; rintro e w' ⟨rfl, rfl⟩) | (go_at_call 74; refine (HT.word _ HX.out).mono ?_; rintro e w' ⟨rfl, rfl⟩) | (go_at_call 75; refine (HT.mark _ HX.out).mono ?_; rintro e w2 ⟨rfl, hb2⟩))
              all_goals go_ret
              all_goals first | exact tells1 rfl HX.out | exact tells1 rfl (HX.out.trans (hb2.mono HX.out.size))
          · have hm : mayV kd n E R Wd Mk = false := by unfold mayV; rw [if_neg h1, if_neg h2, if_neg h3, if_neg h4, if_neg h5]
            rw [hm]
            have g1 : (kd == 1) = false := by rw [beq_eq_false_iff_ne]; exact h1
            have g2 : (kd == 2) = false := by rw [beq_eq_false_iff_ne]; exact h2
            have g3 : (kd == 3) = false := by rw [beq_eq_false_iff_ne]; exact h3
            have g4 : (kd == 4) = false := by rw [beq_eq_false_iff_ne]; exact h4
            have g5 : (kd == 5) = false := by rw [beq_eq_false_iff_ne]; exact h5
            clear hm h1 h2 h3 h4 h5
            go_enter Tryd.func69, Tryd.ntmps69
            go_wp2_with (first | (go_at_call 73; refine (HT.right _ HX.out).mono ?_; rintro e w' ⟨rfl, rfl⟩) | (go_at_call 74; refine (HT.word _ HX.out).mono ?_; rintro e w' ⟨rfl, rfl⟩) | (go_at_call 75; refine (HT.mark _ HX.out).mono ?_; rintro e w2 ⟨rfl, hb2⟩))
            all_goals go_ret
            all_goals exact tells1 rfl HX.out
theorem mayBe_any (k : Tok) (w : World) (hs : k.text.size ≤ maxLen) (hL : LexEnv w) : Calls Tryd.prog 69 #[tokV k] w (Tells1 w (may k)) := by
  rw [← mayV_is]
  exact mayBe_v k.kind k.int k.place k.text _ _ _ _ w (nil_test k.text) (textIs k.text w hs hL)
end Go.Proofs.YtjlpoigcalfdlaaDoor

/-
  PLAIN: the document's way to cut a token is the program's; the marks ahead. No program stands in it.
  WALKS over package names: numbered, digit. What each call answers.
  BYTES IN A SLICE OF THE CALL's OWN: append of bytes, append of a string, a string made of them: each as the walk takes it.
  WALKS over package names: addForm, Quote.
  WALKS over package names: Quote.
  WALKS over the document's own answers: Form, common.
-/
import Derived.Test.YtjlpoigcalfdlaaDoorZB1
import Derived.Test.YtjlpoigcalfdlaaDoorRows
import Derived.Test.YtjlpoigcalfdlaaDoorShelf
import Derived.WalkKit
import Derived.WalkSpells
import Derived.WalkLawsBesides
import Derived.Lib.AppendStr
import Derived.Deep.RegionLaw
import Derived.RegionTactic
import Derived.BigRegion
import Derived.Deep.QuietTactic
import Derived.BigQuiet
import Derived.Lib.BufferRead
namespace Go.Proofs.YtjlpoigcalfdlaaDoor
open Go
set_option linter.unusedVariables false
def markStep (r : List UInt8) (p : List UInt8 × Nat) (m : List UInt8) : List UInt8 × Nat :=
  (if common m r = m.length ∧ p.1.length < common m r then m else p.1, max p.2 (common m r))
def ahead (r : List UInt8) : List UInt8 × Nat := marksL.foldl (markStep r) ([], 0)
def firsts : List UInt8 := [46, 35, 45, 94, 63, 33, 40, 41, 43, 42, 61, 60, 58]
def checkM (q : List UInt8) : Bool :=
  decide ((ahead q).2 ≤ q.length) && (List.range q.length).all (fun k => if k < (ahead q).2 then begM (q.take (k + 1)) else if k = (ahead q).2 then !begM (q.take (k + 1)) else true)
  && (if markB (q.take (ahead q).2) then (ahead q).1 == q.take (ahead q).2 else (ahead q).1 == [])
theorem check2 : ∀ c ∈ firsts, ∀ d : Fin 256, checkM [c, UInt8.ofNat d.val] = true := by decide +kernel
theorem check1 : ∀ c ∈ firsts, checkM [c] = true := by decide +kernel
theorem marks_two : ∀ m ∈ marksL, m.length ≤ 2 ∧ m ≠ [] := by decide
theorem marks_first : ∀ m ∈ marksL, ∃ c ∈ firsts, m.head? = some c := by decide
theorem foldl_congr {α β : Type} (f g : β → α → β) : ∀ (l : List α) (b : β), (∀ a ∈ l, ∀ b, f b a = g b a) → l.foldl f b = l.foldl g b
  | [], b, _ => rfl
  | a :: l, b, h => by
    rw [List.foldl_cons, List.foldl_cons, h a (by simp)]
    exact foldl_congr f g l _ fun x hx => h x (by simp [hx])
theorem foldl_still {α β : Type} (f : β → α → β) (b : β) : ∀ (l : List α), (∀ a ∈ l, f b a = b) → l.foldl f b = b
  | [], _ => rfl
  | a :: l, h => by
    rw [List.foldl_cons, h a (by simp)]
    exact foldl_still f b l fun x hx => h x (by simp [hx])
theorem ahead_take (r : List UInt8) : ahead r = ahead (r.take 2) := by
  unfold ahead
  refine foldl_congr _ _ _ _ fun m hm b => ?_
  unfold markStep
  rw [common_take m r 2 (marks_two m hm).1]
theorem begM_long {l : List UInt8} (h : 2 < l.length) : begM l = false := by
  rw [Bool.eq_false_iff]
  intro hd
  unfold begM at hd
  rw [List.any_eq_true] at hd
  obtain ⟨m, hm, hp⟩ := hd
  have := (List.isPrefixOf_iff_prefix.1 hp).length_le
  have := (marks_two m hm).1
  omega
/-- what the marks ahead tell: how far, and which -/
structure AheadIs (r : List UInt8) : Prop where
  far : FarIs begM r (ahead r).2
  yes : markB (r.take (ahead r).2) = true → (ahead r).1 = r.take (ahead r).2
  no : markB (r.take (ahead r).2) = false → (ahead r).1 = []
theorem ahead_of_check {q : List UInt8} (h : checkM q = true) : AheadIs q := by
  unfold checkM at h
  rw [Bool.and_eq_true, Bool.and_eq_true, decide_eq_true_eq, List.all_eq_true] at h
  obtain ⟨⟨h1, h2⟩, h3⟩ := h
  refine ⟨⟨h1, fun k hk => ?_, fun hlt => ?_⟩, fun hm => ?_, fun hm => ?_⟩
  · have := h2 k (by rw [List.mem_range]; omega)
    rwa [if_pos hk] at this
  · have := h2 (ahead q).2 (by rw [List.mem_range]; exact hlt)
    rw [if_neg (by omega), if_pos rfl] at this
    simpa using this
  · rw [if_pos hm] at h3; exact eq_of_beq h3
  · rw [if_neg (by rw [hm]; simp)] at h3; exact eq_of_beq h3
theorem ahead_is (r : List UInt8) : AheadIs r := by
  cases r with
  | nil => exact ahead_of_check (by decide +kernel)
  | cons c t =>
    by_cases hc : c ∈ firsts
    · cases t with
      | nil => exact ahead_of_check (check1 c hc)
      | cons d u =>
        have h := ahead_of_check (q := [c, d]) (by have := check2 c hc ⟨d.toNat, d.toNat_lt⟩; simpa using this)
        have ha : ahead (c :: d :: u) = ahead [c, d] := by rw [ahead_take]; rfl
        have hle := h.far.le
        simp only [List.length_cons, List.length_nil] at hle
        have ht : ∀ k, k ≤ 2 → (c :: d :: u).take k = [c, d].take k := by
          intro k hk
          match k, hk with
          | 0, _ => rfl
          | 1, _ => rfl
          | 2, _ => rfl
        refine ⟨⟨by rw [ha]; simp only [List.length_cons]; omega, fun k hk => ?_, fun hlt => ?_⟩, fun hm => ?_, fun hm => ?_⟩
        · rw [ha] at hk; rw [ht _ (by omega)]; exact h.far.yes k hk
        · rw [ha]
          by_cases h2 : (ahead [c, d]).2 < 2
          · rw [ht _ (by omega)]; exact h.far.no (by simpa using h2)
          · have e2 : (ahead [c, d]).2 = 2 := by omega
            rw [e2]
            cases u with
            | nil => rw [ha, e2] at hlt; simp at hlt
            | cons x u => exact begM_long (by simp)
        · rw [ha] at hm ⊢; rw [ht _ hle] at hm ⊢; exact h.yes hm
        · rw [ha] at hm ⊢; rw [ht _ hle] at hm; exact h.no hm
    · have h0 : ∀ m ∈ marksL, common m (c :: t) = 0 := by
        intro m hm
        obtain ⟨d, hd, he⟩ := marks_first m hm
        cases m with
        | nil => rfl
        | cons a m =>
          simp at he; subst he
          exact common_ne (fun e => hc (e ▸ hd))
      have ha : ahead (c :: t) = ([], 0) := by
        unfold ahead
        refine foldl_still _ _ _ fun m hm => ?_
        unfold markStep
        rw [h0 m hm]; simp
      have hb : begM [c] = false := by
        rw [Bool.eq_false_iff]
        intro hd
        unfold begM at hd
        rw [List.any_eq_true] at hd
        obtain ⟨m, hm, hp⟩ := hd
        obtain ⟨d, hd, he⟩ := marks_first m hm
        cases m with
        | nil => cases he
        | cons a m =>
          simp at he; subst he
          have := (List.cons_prefix_cons.1 (List.isPrefixOf_iff_prefix.1 hp)).1
          exact hc (this ▸ hd)
      refine ⟨⟨by rw [ha]; exact Nat.zero_le _, fun k hk => by rw [ha] at hk; exact absurd hk (by omega), fun _ => by rw [ha]; simpa using hb⟩, fun hm => ?_, fun _ => by rw [ha]⟩
      rw [ha] at hm
      have hm : markB [] = true := hm
      exact absurd hm (by decide)
theorem isMark_is (l : List UInt8) : (decide ((ahead l).1 ≠ []) && decide ((ahead l).1 = l)) = markB l := by
  have h := ahead_is l
  cases hm : markB l with
  | true =>
    have hp : FarIs begM l l.length := by
      refine ⟨Nat.le_refl _, fun k hk => ?_, fun h => absurd h (by omega)⟩
      unfold begM
      rw [List.any_eq_true]
      refine ⟨l, by simpa [markB] using hm, ?_⟩
      rw [List.isPrefixOf_iff_prefix]
      exact List.take_prefix _ _
    have e := h.far.eq
    rw [hp.eq] at e
    have ht : l.take (ahead l).2 = l := by rw [← e]; exact List.take_length
    have := h.yes (by rw [ht]; exact hm)
    rw [ht] at this
    rw [this]
    have hne : l ≠ [] := by rintro rfl; exact absurd hm (by decide)
    simp [hne]
  | false =>
    rw [Bool.eq_false_iff]
    intro hb
    rw [Bool.and_eq_true, decide_eq_true_eq, decide_eq_true_eq] at hb
    cases hq : markB (l.take (ahead l).2) with
    | true => rw [h.yes hq] at hb; rw [hb.2] at hq; rw [hq] at hm; cases hm
    | false => exact hb.1 (h.no hq)
def may (k : Tok) : Bool :=
  if k.kind = 1 then decide (0 ≤ k.int) && decide (k.text.data.toList = [])
  else if k.kind = 2 then decide (k.int = 0)
  else if k.kind = 3 then decide (k.int = 0) && right k.text.data.toList && !wordB k.text.data.toList
  else if k.kind = 4 then decide (k.int = 0) && wordB k.text.data.toList
  else if k.kind = 5 then decide (k.int = 0) && markB k.text.data.toList
  else false
end Go.Proofs.YtjlpoigcalfdlaaDoor
namespace Go.Proofs.YtjlpoigcalfdlaaDoor
open Go.RowKit
set_option linter.unusedVariables false
theorem ret_bool {a b : Bool} (h : a = b) : Ending.returned (.bool a) = .returned (.bool b) := by rw [h]
set_option maxHeartbeats 400000 in
theorem numbered_any (n : Int) (w : World) :
    Calls Tryd.prog 85 #[.int .u8 n] w fun e w' => e = .returned (.bool (numB n)) ∧ w = w' := by
  go_enter Tryd.func85, Tryd.ntmps85
  go_wp2
  all_goals go_ret
  all_goals refine ⟨ret_bool ?_, rfl⟩
  all_goals (unfold numB; simp [*])
theorem numbered_yes (n : Int) (w : World) (h : numB n = true) :
    Calls Tryd.prog 85 #[.int .u8 n] w fun e w' => e = .returned (.bool true) ∧ w = w' := by
  rw [← h]; exact numbered_any n w
theorem numbered_no (n : Int) (w : World) (h : numB n = false) :
    Calls Tryd.prog 85 #[.int .u8 n] w fun e w' => e = .returned (.bool false) ∧ w = w' := by
  rw [← h]; exact numbered_any n w
end Go.Proofs.YtjlpoigcalfdlaaDoor
namespace Go.Proofs.YtjlpoigcalfdlaaDoor
open Go Go.RowKit
set_option linter.unusedVariables false
def enc (c : UInt8) : Value := .int .u8 (c.toNat : Int)
theorem enc_one (l : List UInt8) : ∀ u ∈ l.map enc, u.oneCell' = true := by
  intro u hu
  rw [List.mem_map] at hu
  obtain ⟨b, _, rfl⟩ := hu
  rfl
/-- the slice v of bytes holds l, in a block of the call's own (from B on), or is nil -/
def ownB (w : World) (B : Nat) (v : Value) (l : List UInt8) : Prop := w.ownsRow B 5 1 v l.length (l.map enc)
theorem byteInfo : (Tryd.prog.info? 5).map (fun i => (i.zero, i.size, i.bytes)) = some (some (.int .u8 0), 1, 1) := by kernel_rfl
theorem ownB.alloc {w : World} {B : Nat} {v : Value} {l : List UInt8} (h : ownB w B v l) (o : Obj) : ownB (w.alloc o) B v l := World.ownsRow.alloc h o
theorem ownB.nil (w : World) (B : Nat) : ownB w B (.slice none 0 0) [] := World.ownsRow_nil w B _ _
theorem ownB.below {w w' : World} {B : Nat} {v : Value} {l : List UInt8} (h : ownB w B v l) (hb : Below w.heap.size w w') : ownB w' B v l := by
  refine ⟨h.1, ?_⟩
  rcases h.2 with hn | ⟨g, cap, cur, rfl, hbg, hgg, rest⟩
  · exact .inl hn
  · refine .inr ⟨g, cap, cur, rfl, hbg, ?_, rest⟩
    rw [hb.block g (Array.getElem?_eq_some_iff.1 hgg).1]
    exact hgg
theorem ownB.grown {w w' : World} {B : Nat} {v : Value} {l : List UInt8} (h : ownB w B v l) (hB : B ≤ w.heap.size) (hg : w.grownBy w' v.ownBlock) : Below B w w' :=
  (Below.refl _ _).grown hg hB (fun k hk => (World.ownsRow.lt h k hk).1)
/-- append of bytes that lie in memory -/
theorem app_bytes {w : World} {ops : Array Oper} {rest : List Oper} {o : Oper} {a : Act} {Q : Exit → Act → World → Prop} (hgd : o.guard = none) (s x : Operand)
    (ho : o.op = .call { callee := .builtin .append, args := #[s, x], argTypes := #[88, 88] })
    (B : Nat) (v : Value) (l : List UInt8) (hs : a.eval s = v) (hown : ownB w B v l) (ad : Addr) (m c : Nat) (news : List UInt8) (hx : a.eval x = .slice (some ad) m c) (hl : news.length = m)
    (hnews : ∀ j u, (news.map enc)[j]? = some u → w.cell? (ad.add j) = some u) (hroom : l.length + m ≤ 140737488355328) (hB : B ≤ w.heap.size)
    (h : ∀ v' w', ownB w' B v' (l ++ news) → Below B w w' → wpList Tryd.prog ops Q rest (a.put o.dst v') w') : wpList Tryd.prog ops Q (o :: rest) a w := by
  obtain ⟨i0, hi, hz0, hz1, hz2⟩ := info_parts byteInfo
  refine wpList_append_own w hgd s x _ ho B 5 i0 (.int .u8 0) 1 1 Tryd.underlying88 hi hz0 hz1 hz2 rfl (by decide) v l.length (l.map enc) hs hown ad m c (news.map enc) hx (by simp [hl]) hnews (enc_one _) (by unfold maxLen; omega) (by omega) hB ?_
  intro v' w' hown' hg _
  refine h v' w' ?_ (ownB.grown hown hB hg)
  unfold ownB
  rw [List.length_append, List.map_append, hl]
  exact hown'
/-- the same, as a step of a region that draws its order -/
theorem step_app_bytes {w : World} {ops : Array Oper} {o : Oper} {a : Act} {K : Act → World → Prop} {Q : Exit → Act → World → Prop} {E : Prop} (hgd : o.guard = none) (s x : Operand)
    (ho : o.op = .call { callee := .builtin .append, args := #[s, x], argTypes := #[88, 88] })
    (B : Nat) (v : Value) (l : List UInt8) (hs : a.eval s = v) (hown : ownB w B v l) (ad : Addr) (m c : Nat) (news : List UInt8) (hx : a.eval x = .slice (some ad) m c) (hl : news.length = m)
    (hnews : ∀ j u, (news.map enc)[j]? = some u → w.cell? (ad.add j) = some u) (hroom : l.length + m ≤ 140737488355328) (hB : B ≤ w.heap.size)
    (h : ∀ v' w', ownB w' B v' (l ++ news) → Below B w w' → K (a.put o.dst v') w') : if Region.wanted o (yielded ops a.tmps) = true then Oper.wp Tryd.prog o a w K Q else E := by
  have hw : Region.wanted o (yielded ops a.tmps) = true := by simp [Region.wanted, hgd]
  rw [if_pos hw]
  obtain ⟨i0, hi, hz0, hz1, hz2⟩ := info_parts byteInfo
  refine wp_append_own w s x _ ho B 5 i0 (.int .u8 0) 1 1 Tryd.underlying88 hi hz0 hz1 hz2 rfl (by decide) v l.length (l.map enc) hs hown ad m c (news.map enc) hx (by simp [hl]) hnews (enc_one _) (by unfold maxLen; omega) (by omega) hB ?_
  intro v' w' hown' hg _
  refine h v' w' ?_ (ownB.grown hown hB hg)
  unfold ownB
  rw [List.length_append, List.map_append, hl]
  exact hown'
/-- append of a string's bytes -/
theorem app_str {w : World} {ops : Array Oper} {rest : List Oper} {o : Oper} {a : Act} {Q : Exit → Act → World → Prop} (hgd : o.guard = none) (s x : Operand)
    (ho : o.op = .call { callee := .builtin .append, args := #[s, x], argTypes := #[88, 9] })
    (B : Nat) (v : Value) (l : List UInt8) (hs : a.eval s = v) (hown : ownB w B v l) (t : ByteArray) (hx : a.eval x = .string t) (hroom : l.length + t.size ≤ 140737488355328) (hB : B ≤ w.heap.size)
    (h : ∀ v' w', ownB w' B v' (l ++ t.data.toList) → Below B w w' → wpList Tryd.prog ops Q rest (a.put o.dst v') w') : wpList Tryd.prog ops Q (o :: rest) a w := by
  obtain ⟨i0, hi, hz0, hz1, hz2⟩ := info_parts byteInfo
  refine Lib.wpList_append_own_string w hgd s x _ _ ho B 5 i0 Tryd.underlying88 Tryd.underlying9 hi hz0 hz1 hz2 v l.length (l.map enc) hs hown t hx (by unfold maxLen; omega) (by omega) hB ?_
  intro v' w' hown' hg _
  refine h v' w' ?_ (ownB.grown hown hB hg)
  unfold ownB
  rw [List.length_append, List.map_append, Array.length_toList]
  exact hown'
theorem fold_push (l : List UInt8) : ∀ r : ByteArray, (l.map fun c => (c.toNat : Int)).foldl (fun r n => r.push (UInt8.ofNat n.toNat)) r = ⟨r.data ++ l.toArray⟩ := by
  induction l with
  | nil => intro r; simp
  | cons c l ih =>
    intro r
    rw [List.map_cons, List.foldl_cons, ih]
    simp [ByteArray.push]
/-- string(b) of such a slice -/
theorem conv_own {w : World} {B : Nat} {v : Value} {l : List UInt8} (h : ownB w B v l) : (convert 88 9 v).run Tryd.prog w = .ok (.string ⟨l.toArray⟩) w := by
  rcases h.2 with ⟨rfl, h0⟩ | ⟨g, cap, cur, rfl, hbg, hgg, hle, hmax, hsz, htk⟩
  · obtain rfl : l = [] := List.length_eq_zero_iff.1 h0
    exact Lib.run_convert_nil_bytes w _ _ _ _ Tryd.underlying88 Tryd.underlying5 Tryd.underlying9
  · rw [run_convert_bytes_string w _ _ _ _ _ _ Tryd.underlying88 Tryd.underlying5 Tryd.underlying9]
    have hc := World.ownsRow.cells h (g := g) rfl
    have hload := run_loadCells_list (P := Tryd.prog) w ⟨g, 0, none⟩ (l.map enc) hc
    rw [List.length_map] at hload
    have := run_bytesToString (P := Tryd.prog) w ⟨g, 0, none⟩ l.length cap (l.map fun c => (c.toNat : Int)) (by rw [hload]; congr 2; simp [enc])
    rw [this, fold_push]
    simp
end Go.Proofs.YtjlpoigcalfdlaaDoor
namespace Go.Proofs.YtjlpoigcalfdlaaDoor
open Go Go.RowKit
set_option linter.unusedVariables false
theorem cells_new (w : World) (news : List UInt8) (cs : Array Value) (T : TypeId) (hc : cs.toList = news.map enc) : ∀ j u, (news.map enc)[j]? = some u → (w.alloc (.cells cs T)).cell? ((⟨w.heap.size, 0, none⟩ : Addr).add j) = some u := by
  intro j u h
  have e : (⟨w.heap.size, 0, none⟩ : Addr).add j = ⟨w.heap.size, j, none⟩ := by simp [Addr.add]; exact fun h => h.symm
  rw [e, World.cell?_alloc_at _ _ _ _ rfl, ← Array.getElem?_toList, hc, h]
theorem cells_newd (w : World) (news : List UInt8) (cs : Array Value) (T : TypeId) (hc : cs.toList = news.map enc) : ∀ j u, (news.map enc)[j]? = some u → (w.alloc (.cells cs T)).drew.cell? ((⟨w.heap.size, 0, none⟩ : Addr).add j) = some u :=
  cells_new w news cs T hc
theorem and_15 (c : UInt8) : bits BinOp.and IntKind.u8 (c.toNat : Int) 15 = (c.toNat : Int) % 16 := by
  revert c; apply all256; decide +kernel
theorem hex_at (k : Nat) (h : k < 16) : (⟨#[48, 49, 50, 51, 52, 53, 54, 55, 56, 57, 97, 98, 99, 100, 101, 102]⟩ : ByteArray)[k]'h = hexOf k := by
  have : ∀ k : Fin 16, (⟨#[48, 49, 50, 51, 52, 53, 54, 55, 56, 57, 97, 98, 99, 100, 101, 102]⟩ : ByteArray)[k.val]'k.isLt = hexOf k.val := by decide +kernel
  exact this ⟨k, h⟩
theorem toNat_q (n : Nat) : ((n : Int) / 16).toNat = n / 16 := by omega
theorem toNat_r (n : Nat) : ((n : Int) % 16).toNat = n % 16 := by omega
/-- what addForm leaves -/
def Added (B : Nat) (w : World) (l : List UInt8) (e : Ending) (w' : World) : Prop := ∃ v', e = .returned v' ∧ ownB w' B v' l ∧ Below B w w'
set_option maxHeartbeats 400000 in
theorem addForm_any (B : Nat) (v : Value) (l : List UInt8) (c : UInt8) (w : World) (hown : ownB w B v l) (hB : B ≤ w.heap.size) (hroom : l.length + 4 ≤ 140737488355328) :
    Calls Tryd.prog 82 #[v, .int .u8 c.toNat] w (Added B w (l ++ form c)) := by
  have hlt := c.toNat_lt
  by_cases c1 : c.toNat = 34 ∨ c.toNat = 92
  · have hf : form c = [92, c] := by unfold form; rw [if_pos c1]
    rw [hf]
    clear hf
    rcases c1 with c1 | c1
    · have d1 : ((c.toNat : Int) == 34) = true := by rw [beq_iff_eq]; omega
      clear c1
      go_enter Tryd.func82, Tryd.ntmps82
      go_wp2_with (at_builtin; refine app_bytes rfl _ _ rfl B v l rfl (hown.alloc _) ⟨w.heap.size, 0, none⟩ 2 2 [92, c] rfl rfl (cells_new w _ _ _ rfl) (by omega) (by simp; omega) ?_; intro v' w1 hown1 hb1)
      go_ret
      exact ⟨_, rfl, hown1, ((Below.refl _ _).alloc hB _).trans hb1⟩
    · have d1 : ((c.toNat : Int) == 92) = true := by rw [beq_iff_eq]; omega
      have d2 : ((c.toNat : Int) == 34) = false := by rw [beq_eq_false_iff_ne]; omega
      clear c1
      go_enter Tryd.func82, Tryd.ntmps82
      go_wp2_with (at_builtin; refine app_bytes rfl _ _ rfl B v l rfl (hown.alloc _) ⟨w.heap.size, 0, none⟩ 2 2 [92, c] rfl rfl (cells_new w _ _ _ rfl) (by omega) (by simp; omega) ?_; intro v' w1 hown1 hb1)
      go_ret
      exact ⟨_, rfl, hown1, ((Below.refl _ _).alloc hB _).trans hb1⟩
  · have d1 : ((c.toNat : Int) == 34) = false := by rw [beq_eq_false_iff_ne]; omega
    have d2 : ((c.toNat : Int) == 92) = false := by rw [beq_eq_false_iff_ne]; omega
    by_cases c2 : c.toNat = 10
    · have hf : form c = [92, 110] := by unfold form; rw [if_neg c1, if_pos c2]
      rw [hf]
      have d3 : ((c.toNat : Int) == 10) = true := by rw [beq_iff_eq]; omega
      clear hf c1 c2
      go_enter Tryd.func82, Tryd.ntmps82
      go_wp2_with (at_builtin; refine app_bytes rfl _ _ rfl B v l rfl (hown.alloc _) ⟨w.heap.size, 0, none⟩ 2 2 [92, 110] rfl rfl (cells_new w _ _ _ rfl) (by omega) (by simp; omega) ?_; intro v' w1 hown1 hb1)
      go_ret
      exact ⟨_, rfl, hown1, ((Below.refl _ _).alloc hB _).trans hb1⟩
    · have d3 : ((c.toNat : Int) == 10) = false := by rw [beq_eq_false_iff_ne]; omega
      cases hn : numB (c.toNat : Int) with
      | false =>
        have hf : form c = [c] := by unfold form; rw [if_neg c1, if_neg c2, hn]; rfl
        rw [hf]
        have HN := Lib.hid hn
        clear hf c1 c2 hn
        go_enter Tryd.func82, Tryd.ntmps82
        go_wp2_with (first | (at_builtin; refine app_bytes rfl _ _ rfl B v l rfl (hown.alloc _) ⟨w.heap.size, 0, none⟩ 1 1 [c] rfl rfl (cells_new w _ _ _ rfl) (by omega) (by simp; omega) ?_; intro v' w1 hown1 hb1) | (go_at_call 85; refine (numbered_no _ _ HN.out).mono ?_; rintro e w' ⟨rfl, rfl⟩))
        go_ret
        exact ⟨_, rfl, hown1, ((Below.refl _ _).alloc hB _).trans hb1⟩
      | true =>
        have hf : form c = [92, 120, hexOf (c.toNat / 16), hexOf (c.toNat % 16)] := by unfold form; rw [if_neg c1, if_neg c2, hn]; rfl
        rw [hf]
        have HN := Lib.hid hn
        have q0 : 0 ≤ (c.toNat : Int) / 16 := by omega
        have q1 : (c.toNat : Int) / 16 < 16 := by omega
        have r0 : 0 ≤ (c.toNat : Int) % 16 := by omega
        have r1 : (c.toNat : Int) % 16 < 16 := by omega
        have e15 := and_15 c
        clear hf c1 c2 hn
        go_enter Tryd.func82, Tryd.ntmps82
        go_wp2_with (go_at_call 85; refine (numbered_yes _ _ HN.out).mono ?_; rintro e w' ⟨rfl, rfl⟩)
        go_region_law (refine step_app_bytes rfl _ _ rfl B v l rfl (hown.alloc _) ⟨w.heap.size, 0, none⟩ 4 4 [92, 120, hexOf (c.toNat / 16), hexOf (c.toNat % 16)] rfl rfl (cells_newd w _ _ _ (by simp only [toNat_q, toNat_r]; rw [hex_at _ (by omega), hex_at _ (by omega)]; rfl)) (by omega) (by go_simp; omega) ?_; intro v' w1 hown1 hb1)
        all_goals go_wp2
        all_goals go_ret
        all_goals exact ⟨_, rfl, hown1, (((Below.refl _ _).alloc hB _).drew).trans hb1⟩
end Go.Proofs.YtjlpoigcalfdlaaDoor
namespace Go.Proofs.YtjlpoigcalfdlaaDoor
open Go Go.RowKit
set_option linter.unusedVariables false
theorem take_snoc (s : ByteArray) (k : Nat) (h : k < s.size) : s.data.toList.take (k + 1) = s.data.toList.take k ++ [s[k]] := by
  rw [List.take_succ_eq_append_getElem (by simpa using h)]; rfl
theorem flat_take_le (l : List UInt8) (k : Nat) : ((l.take k).flatMap form).length ≤ (l.flatMap form).length := by
  have h : l.flatMap form = (l.take k).flatMap form ++ (l.drop k).flatMap form := by rw [← List.flatMap_append, List.take_append_drop]
  rw [h, List.length_append]; omega
theorem flat_ge (l : List UInt8) : l.length ≤ (l.flatMap form).length := by
  induction l with
  | nil => simp
  | cons c l ih =>
    rw [List.flatMap_cons, List.length_append, List.length_cons]
    have := form_length c
    omega
def Quoted (w : World) (l : List UInt8) (e : Ending) (w' : World) : Prop := e = .returned (.string ⟨l.toArray⟩) ∧ Below w.heap.size w w'
theorem quote_rel {s : ByteArray} {k : Nat} (h : k < s.size) : (34 :: (s.data.toList.take k).flatMap form) ++ form s[k] = 34 :: (s.data.toList.take (k + 1)).flatMap form := by
  rw [take_snoc s k h, List.flatMap_append]; simp
set_option maxHeartbeats 400000 in
theorem quote_any (s : ByteArray) (w : World) (hs : (quote s.data.toList).length + 4 ≤ 140737488355328) :
    Calls Tryd.prog 77 #[.string s] w (Quoted w (quote s.data.toList)) := by
  have hq : (quote s.data.toList).length = (s.data.toList.flatMap form).length + 2 := by simp [quote]
  have hg := flat_ge s.data.toList
  have hsz : s.data.toList.length = s.size := by rw [Array.length_toList]; rfl
  have hroom : (s.data.toList.flatMap form).length + 6 ≤ 140737488355328 := by omega
  have hmax : s.size ≤ 140737488355328 := by omega
  have ROOM := Lib.hid hroom
  clear hs hq hg hsz hroom
  obtain ⟨i0, hi, hz0, hz1, hz2⟩ := info_parts byteInfo
  go_enter Tryd.func77, Tryd.ntmps77
  go_wp2_with (first | (at_make; refine wpList_make_own w rfl (.const (.int .i64 0)) (.tmp 7) 88 rfl w.heap.size 5 i0 (.int .u8 0) 1 Tryd.underlying88 hi hz0 hz1 .i64 .i64 ((s.size : Int) + 2) (s.size + 2) rfl rfl (by omega) (by rw [hz2]; omega) (by unfold maxLen; omega) (Nat.le_refl _) ?_; intro w1 hown1 hg1; have hown : ownB w1 w.heap.size (.slice (some ⟨w.heap.size, 0, none⟩) 0 (s.size + 2)) [] := hown1; have hb1 : Below w.heap.size w w1 := (Below.refl _ _).grown hg1 (Nat.le_refl _) (fun k h => by cases h); have hsz1 : w.heap.size ≤ w1.heap.size := hb1.size; clear hown1 hg1) | (at_builtin; refine app_bytes rfl _ _ rfl w.heap.size _ [] rfl (hown.alloc _) ⟨w1.heap.size, 0, none⟩ 1 1 [34] rfl rfl (cells_new w1 _ _ _ rfl) (by simp) (by simp; omega) ?_; intro v2 w2 hown2 hb2))
  have hb2' : Below w.heap.size w w2 := (hb1.alloc hsz1 _).trans hb2
  clear hb1 hb2 hown
  go_loopw [3, 4] (fun v i wr => ∃ k : Nat, k ≤ s.size ∧ i = .int .i64 k ∧ ownB wr w.heap.size v (34 :: (s.data.toList.take k).flatMap form) ∧ Below w.heap.size w wr) (fun _ i _ => s.size - (intOf i).toNat)
  case atStart => exact ⟨0, Nat.zero_le _, rfl, by simpa using hown2, hb2'⟩
  case round =>
    obtain ⟨k, hk, rfl, hown, hb⟩ := hrel
    clear hown2 hb2'
    have hfl := flat_take_le s.data.toList k
    have hszr : w.heap.size ≤ wr.heap.size := hb.size
    have hroom1 : (34 :: (s.data.toList.take k).flatMap form).length + 4 ≤ 140737488355328 := by have := ROOM.out; simp only [List.length_cons]; omega
    have R1 := Lib.hid hroom1
    clear hroom1 hfl
    by_cases hlt : k < s.size
    · go_wp2_with (go_at_call 82; refine (addForm_any w.heap.size _ _ s[k] _ hown hszr R1.out).mono ?_; rintro e w' ⟨v', rfl, hown', hb'⟩)
      go_roundw
      case rel => exact ⟨k + 1, by omega, by go_num, by rw [← quote_rel hlt]; exact hown', hb.trans hb'⟩
      case measure => simp [intOf]; omega
    · obtain rfl : k = s.size := by omega
      go_wp2_with (at_builtin; refine app_bytes rfl _ _ rfl w.heap.size _ _ rfl (hown.alloc _) ⟨wr.heap.size, 0, none⟩ 1 1 [34] rfl rfl (cells_new wr _ _ _ rfl) (by have := R1.out; omega) (by simp; omega) ?_; intro v3 w3 hown3 hb3; have hcv := conv_own hown3)
      go_ret
      refine ⟨?_, (hb.alloc hszr _).trans hb3⟩
      have e : s.data.toList.take s.size = s.data.toList := List.take_of_length_le (by rw [Array.length_toList]; exact Nat.le_refl _)
      rw [e]
      rfl
end Go.Proofs.YtjlpoigcalfdlaaDoor
namespace Go.Proofs.YtjlpoigcalfdlaaDoor
open Go Go.RowKit
set_option linter.unusedVariables false
def Commoned (w : World) (n : Nat) (e : Ending) (w' : World) : Prop := e = .returned (.int .i64 n) ∧ ∃ q, w' = w.drewN q
def CommonRel (s t : ByteArray) (w : World) (i : Value) (wr : World) : Prop :=
  ∃ k : Nat, k ≤ s.size ∧ k ≤ t.size ∧ i = .int .i64 k ∧ common s.data.toList t.data.toList = k + common (s.data.toList.drop k) (t.data.toList.drop k) ∧ ∃ q, wr = w.drewN q
theorem ret_int {k : IntKind} {a b : Int} (h : a = b) : Ending.returned (.int k a) = .returned (.int k b) := by rw [h]
theorem drewN_two (w : World) (a b : Nat) : ∃ q, (w.drewN a).drewN b = w.drewN q := ⟨_, World.drewN_drewN w a b⟩
end Go.Proofs.YtjlpoigcalfdlaaDoor

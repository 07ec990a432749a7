/-
  THE DOCUMENT's Parse: takes, any line; what its loops keep, in memory and in plain mathematics.
-/
import Derived.Test.YtjjlofaejpnnnaaGreatDoorZR23
namespace Go.Proofs.YtjjlofaejpnnnaaGreatDoor
open Go Go.RowKit Go.Sort
set_option linter.unusedVariables false
theorem infoModelD : (Tryz.prog.info? 25).map (·.size) = some 2 := by kernel_rfl
theorem oneModelD (n : Int) (A : Option Addr) (m c : Nat) : (#[.int .i64 n, .slice A m c] : Array Value).all (·.oneCell') = true := by simp [Value.oneCell']
theorem parseD_res (fn : Func) (hres : fn.results = #[.cell 2 25, .tmp 3, .tmp 4]) {W : World} {g : Nat} {a b v3 v4 : Value} (hg : Blk W g 25 #[a, b]) (tmps : Array Value) (h2 : tmps[2]?.getD undef = .pointer (some ⟨g, 0, none⟩)) (h3 : tmps[3]?.getD undef = v3) (h4 : tmps[4]?.getD undef = v4) :
    (results fn tmps).run Tryz.prog W = .ok (.tuple #[.agg #[a, b], v3, v4]) W := by
  have h := run_loadVar_row (P := Tryz.prog) W g 25 25 #[a, b] (0, 0) _ hg Tryz.underlying25 rfl infoModelD
  simp [results, hres, h2, h3, h4, asAddr, h]
/-- what the document's Parse answers -/
def ParseD (w : World) (r : (Int × List Nd) × Int × Int) (e : Ending) (w' : World) : Prop :=
  ∃ A n c, e = .returned (.tuple #[.agg #[.int .i64 r.1.1, .slice A n c], .int .i64 r.2.1, .int .i64 r.2.2]) ∧ NodesIn w' 0 w'.heap.size A n c r.1.2 ∧ Below w.heap.size w w'
theorem parseD_no {w w' : World} {r : (Int × List Nd) × Int × Int} {a x : Int} (hr : r = ((0, []), a, x)) (hb : Below w.heap.size w w') : ParseD w r (.returned (.tuple #[.agg #[.int .i64 0, .slice none 0 0], .int .i64 a, .int .i64 x])) w' := by
  subst hr
  exact ⟨none, 0, 0, rfl, NodesIn.nil _ _ _, hb⟩
theorem Row.rowLoD {w : World} {g lo hi s n c : Nat} {cs : Array Value} {A : Option Addr} {xs : List Value} (h : Row w lo hi s A n c xs) (hg : g < lo) : Row (w.setRow g cs) lo hi s A n c xs :=
  ⟨h.1, h.2.1, h.2.2.1, fun hn => by
    obtain ⟨b, o, e, h1, h2, hc⟩ := h.2.2.2 hn
    exact ⟨b, o, e, h1, h2, fun j u hu => (World.cell?_of_block (a := ⟨b, o + j, none⟩) (setRow_other w g b cs (by omega))).trans (hc j u hu)⟩⟩
theorem NodesIn.rowLoD {w : World} {g lo hi n c : Nat} {cs : Array Value} {A : Option Addr} {nds : List Nd} (h : NodesIn w lo hi A n c nds) (hg : g < lo) : NodesIn (w.setRow g cs) lo hi A n c nds :=
  ⟨h.1, h.2.1, h.2.2.1, fun hn => by
    obtain ⟨b, o, e, h1, h2, V, hc⟩ := h.2.2.2 hn
    exact ⟨b, o, e, h1, h2, V, fun i nd hi => ⟨(hc i nd hi).1.keep (fun x => World.cell?_of_block (a := ⟨b, x, none⟩) (setRow_other w g b cs (by omega))), ⟨(hc i nd hi).2.pn, (hc i nd hi).2.kn, (hc i nd hi).2.rn, (hc i nd hi).2.p.rowLoD hg, (hc i nd hi).2.k.rowLoD hg, (hc i nd hi).2.r.rowLoD hg, (hc i nd hi).2.sz⟩⟩⟩⟩
/-- a line more, whichever it is -/
theorem takesD_any (w : World) (B0 B gu c : Nat) (v vd : Value) (l : List (Nd × Leaf)) (st : RS) (h : UIn B gu c c v vd l st w) (h0 : c = 0 → st.next = 0) (h1 : 1 ≤ c → st.next ≠ 0) (hcb : c ≤ 4194303) (hB0 : B0 ≤ gu) (s : ByteArray) (hs : s.size ≤ 1048576) :
    Calls Tryz.prog 21 #[.pointer (some ⟨gu, 0, none⟩), .string s] w (LineU B0 B gu (c + 1) (c + 1) (takesV st s.data.toList) w) := by
  rcases Nat.eq_zero_or_pos c with rfl | hc
  · exact takesD_first w B0 B gu v vd l st h (h0 rfl) hB0 s hs
  · exact takesD_next w B0 B gu c c v vd l st h (h1 hc) hc (by omega) hB0 s hs (by omega)
/-- a line read: a number stands -/
theorem takesV_next {st st' : RS} {s : List UInt8} (h : st.next ≠ 0 → RsOk st) (hv : takesV st s = some st') : st'.next ≠ 0 := by
  have := (line_ok h (by rw [← takesV_line]; exact hv)).n1
  omega
/-- ahead of line c: the reader, the answer's box -/
structure PU (w : World) (c : Nat) (st : RS) (wr : World) : Prop where
  rd : ∃ v vd l, UIn (w.heap.size + 2) (w.heap.size + 1) c c v vd l st wr
  bel : Below (w.heap.size + 1) (w.alloc (.cells #[.int .i64 0, .slice none 0 0] 25)) wr
  bx : Blk wr w.heap.size 25 #[.int .i64 0, .slice none 0 0]
  c0 : c = 0 → st.next = 0
  c1 : 1 ≤ c → st.next ≠ 0
theorem PU.low {w wr : World} {c : Nat} {st : RS} (h : PU w c st wr) : Below w.heap.size w wr :=
  ((Below.refl _ _).alloc (Nat.le_refl _) _).trans (h.bel.mono (by omega))
theorem PU.cell3 {w wr : World} {c : Nat} {st : RS} (h : PU w c st wr) : wr.cell? ⟨w.heap.size + 1, 3, none⟩ = some (.int .i64 c) := by
  obtain ⟨v, vd, l, hu⟩ := h.rd
  exact (hu.box.cell 3).trans rfl
theorem uin_start (w : World) : PU w 0 ⟨0, [], []⟩ ((w.alloc (.cells #[.int .i64 0, .slice none 0 0] 25)).alloc (.cells #[.int .i64 0, .slice none 0 0, .slice none 0 0, .int .i64 0] 51)) := by
  have e1 : (w.alloc (.cells #[.int .i64 0, .slice none 0 0] 25)).heap.size = w.heap.size + 1 := by simp
  refine ⟨⟨.slice none 0 0, .slice none 0 0, [], ⟨?_, NP.nil _ (by simp), rfl, fun h => absurd rfl h, fun _ => ⟨rfl, rfl⟩, by simp, by omega, by omega⟩⟩, ?_, (Blk.new w _ _).alloc _, fun _ => rfl, fun h => by omega⟩
  · have := Blk.new (w.alloc (.cells #[.int .i64 0, .slice none 0 0] 25)) 51 #[.int .i64 0, .slice none 0 0, .slice none 0 0, .int .i64 0]
    rw [e1] at this
    exact this
  · exact (Below.refl _ _).alloc (by rw [e1]; exact Nat.le_refl _) _
theorem PU.takes {w wr : World} {c : Nat} {st : RS} (h : PU w c st wr) (hcb : c ≤ 4194303) (T : ByteArray) (hT : T.size ≤ 1048576) :
    Calls Tryz.prog 21 #[.pointer (some ⟨w.heap.size + 1, 0, none⟩), .string T] wr fun e w' => e = .returned (.bool (takesV st T.data.toList).isSome) ∧ Below w.heap.size w w' ∧ Blk w' w.heap.size 25 #[.int .i64 0, .slice none 0 0] ∧ w'.cell? ⟨w.heap.size + 1, 3, none⟩ = some (.int .i64 ((c + 1 : Nat) : Int)) ∧ ∀ st', takesV st T.data.toList = some st' → PU w (c + 1) st' w' := by
  obtain ⟨v, vd, l, hu⟩ := h.rd
  refine (takesD_any wr (w.heap.size + 1) (w.heap.size + 2) (w.heap.size + 1) c v vd l st hu h.c0 h.c1 hcb (Nat.le_refl _) T hT).mono ?_
  rintro e w' ⟨rfl, hb, hc3, hst⟩
  have hbl := h.bel.trans hb
  have hbx := h.bx.below hb (Nat.lt_succ_self _)
  exact ⟨rfl, ((Below.refl _ _).alloc (Nat.le_refl _) _).trans (hbl.mono (by omega)), hbx, hc3, fun st' e => ⟨hst st' e, hbl, hbx, fun hx => by omega, fun _ => takesV_next hu.ok e⟩⟩
/-- the lines that are left -/
structure LeftU (F : Nat) (s : ByteArray) (fr c : Nat) (st : RS) : Prop where
  go : fr < s.size ∨ c = 0 → ∃ f, s.size - fr < f ∧ linesV F ⟨0, [], []⟩ 0 s.data.toList = linesV f st c (s.data.toList.drop fr)
  done : ¬ (fr < s.size ∨ c = 0) → linesV F ⟨0, [], []⟩ 0 s.data.toList = .inl st
theorem drop_empty {s : ByteArray} {n : Nat} (h : s.size ≤ n) : s.data.toList.drop n = [] := List.drop_eq_nil_of_le (by rw [toList_eq]; exact h)
theorem cutA_leD (l : List UInt8) : (cutA 10 l).length ≤ l.length := (List.takeWhile_prefix _).length_le
/-- a line is cut at its end -/
theorem line_is (s : ByteArray) (fr e : Nat) (h : fr + (cutA 10 (s.data.toList.drop fr)).length = e) : (s.extract fr e).data.toList = cutA 10 (s.data.toList.drop fr) := by
  rw [Lib.extract_data, ← h, Nat.add_sub_cancel_left]
  exact (List.prefix_iff_eq_take.1 (List.takeWhile_prefix _)).symm
theorem linesV_at (f : Nat) (st : RS) (c : Nat) (s : ByteArray) (fr e : Nat) (h : fr + (cutA 10 (s.data.toList.drop fr)).length = e) (he : e ≤ s.size) :
    linesV (f + 1) st c (s.data.toList.drop fr) = match takesV st (s.extract fr e).data.toList with
      | some st' => if e < s.size then (if e + 1 = s.size then .inl st' else linesV f st' (c + 1) (s.data.toList.drop (e + 1))) else .inr (c + 1)
      | none => .inr (c + 1) := by
  have e0 : linesV (f + 1) st c (s.data.toList.drop fr) = match takesV st (cutA 10 (s.data.toList.drop fr)), (s.data.toList.drop fr).drop (cutA 10 (s.data.toList.drop fr)).length with
    | some st', _ :: rest => if rest = [] then .inl st' else linesV f st' (c + 1) rest
    | _, _ => .inr (c + 1) := rfl
  rw [e0, line_is s fr e h, List.drop_drop, h]
  by_cases hlt : e < s.size
  · rw [drop_get' s e hlt]
    have hnil : s.data.toList.drop (e + 1) = [] ↔ e + 1 = s.size := by rw [List.drop_eq_nil_iff, toList_eq]; omega
    cases takesV st (cutA 10 (s.data.toList.drop fr)) with
    | none => rfl
    | some st' =>
      simp only
      rw [if_pos hlt]
      by_cases hx : e + 1 = s.size
      · rw [if_pos hx, if_pos (hnil.2 hx)]
      · rw [if_neg hx, if_neg fun hy => hx (hnil.1 hy)]
  · rw [drop_empty (n := e) (by omega)]
    cases takesV st (cutA 10 (s.data.toList.drop fr)) with
    | none => rfl
    | some st' => simp only; rw [if_neg hlt]
theorem LeftU.start (s : ByteArray) : LeftU (s.data.toList.length + 1) s 0 0 ⟨0, [], []⟩ := ⟨fun _ => ⟨s.data.toList.length + 1, by rw [toList_eq]; omega, by rw [List.drop_zero]⟩, fun h => absurd (.inr rfl) h⟩
/-- a line is refused -/
theorem LeftU.no {F : Nat} {s : ByteArray} {fr c e : Nat} {st : RS} (h : LeftU F s fr c st) (hgo : fr < s.size ∨ c = 0) (he : fr + (cutA 10 (s.data.toList.drop fr)).length = e) (hes : e ≤ s.size) (hno : takesV st (s.extract fr e).data.toList = none ∨ ¬ e < s.size) : linesV F ⟨0, [], []⟩ 0 s.data.toList = .inr (c + 1) := by
  obtain ⟨f, hf, hL⟩ := h.go hgo
  obtain ⟨f', rfl⟩ : ∃ f', f = f' + 1 := ⟨f - 1, by omega⟩
  rw [hL, linesV_at f' st c s fr e he hes]
  rcases hno with h1 | h1
  · rw [h1]
  · cases takesV st (s.extract fr e).data.toList with
    | none => rfl
    | some st' => simp only; rw [if_neg h1]
/-- a line is taken -/
theorem LeftU.next {F : Nat} {s : ByteArray} {fr c e : Nat} {st st' : RS} (h : LeftU F s fr c st) (hgo : fr < s.size ∨ c = 0) (he : fr + (cutA 10 (s.data.toList.drop fr)).length = e) (hes : e < s.size) (hyes : takesV st (s.extract fr e).data.toList = some st') : LeftU F s (e + 1) (c + 1) st' := by
  obtain ⟨f, hf, hL⟩ := h.go hgo
  obtain ⟨f', rfl⟩ : ∃ f', f = f' + 1 := ⟨f - 1, by omega⟩
  rw [linesV_at f' st c s fr e he (by omega), hyes] at hL
  simp only at hL
  rw [if_pos hes] at hL
  refine ⟨fun hx => ⟨f', by omega, ?_⟩, fun hx => ?_⟩
  · rw [hL, if_neg (by omega)]
  · rw [hL, if_pos (by omega)]
/-- where the selection stands: kk nodes are taken -/
structure SelU (W3 : World) (next : Int) (l : List (Nd × Leaf)) (m : List Nd) (kk : Nat) (Am : Option Addr) (cm : Nat) (lm : List (Nd × Leaf)) (W : World) : Prop where
  bel : Below W3.heap.size W3 W
  bm : Blk W W3.heap.size 25 #[.int .i64 next, .slice Am kk cm]
  own : W.ownsRow (W3.heap.size + 1) 55 7 (.slice Am kk cm) kk (allCells lm)
  len : lm.length = kk
  nds : lm.map (·.1) = m.take kk
  mem : ∀ p ∈ lm, p ∈ l
section
variable {W3 W W' : World} {next : Int} {l lm : List (Nd × Leaf)} {m : List Nd} {kk cm : Nat} {Am : Option Addr}
theorem SelU.start (W3 : World) (next : Int) (l : List (Nd × Leaf)) (m : List Nd) : SelU W3 next l m 0 none 0 [] (W3.alloc (.cells #[.int .i64 next, .slice none 0 0] 25)) :=
  ⟨(Below.refl _ _).alloc (Nat.le_refl _) _, Blk.new _ _ _, World.ownsRow_nil _ _ _ _, rfl, rfl, by simp⟩
theorem SelU.after (h : SelU W3 next l m kk Am cm lm W) (hb : Below W.heap.size W W') : SelU W3 next l m kk Am cm lm W' :=
  ⟨h.bel.trans (hb.mono h.bel.size), h.bm.after hb, own_after h.own hb, h.len, h.nds, h.mem⟩
theorem SelU.more {p : Nd × Leaf} {Az : Option Addr} {cz : Nat} (h : SelU W3 next l m kk Am cm lm W) (hp : p ∈ l) (hm : m[kk]? = some p.1) (ho : W'.ownsRow (W3.heap.size + 1) 55 7 (.slice Az (kk + 1) cz) (kk + 1) (allCells lm ++ ndCells p)) (hg : W.grownBy W' (Value.slice Am kk cm).ownBlock) :
    SelU W3 next l m (kk + 1) Az cz (lm ++ [p]) (W'.setCell ⟨W3.heap.size, 1, none⟩ (.slice Az (kk + 1) cz)) := by
  have hbm := h.bm.grown hg (Ne.symm (own_blk_ne h.own h.bm (by decide)))
  have hsz : W3.heap.size ≤ W.heap.size := h.bel.size
  refine ⟨(below_own h.bel hsz hg fun x hx => by have := (World.ownsRow.lt h.own x hx).1; omega).setCell (p := ⟨W3.heap.size, 1, none⟩) (Nat.le_refl _) _, by have := hbm.set_ 1 (.slice Az (kk + 1) cz); simpa using this, ?_, by rw [List.length_append, h.len]; rfl, ?_, fun q hq => ?_⟩
  · rw [allCells_snocS]
    exact own_other ho hbm (by decide) 1 _
  · rw [List.map_append, h.nds, List.map_singleton, List.take_add_one, hm]; rfl
  · rcases List.mem_append.1 hq with hq | hq
    · exact h.mem q hq
    · obtain rfl : q = p := by simpa using hq
      exact hp
theorem SelU.frozen (h : SelU W3 next l m kk Am cm lm W) (j : Nat) : W.frozen? ⟨W3.heap.size, j, none⟩ = false := h.bm.frozen j
/-- all are taken: the model -/
theorem SelU.nodes {B gu c k : Nat} {v vd : Value} {st : RS} {B0 : Nat} (h : SelU W3 next l m kk Am cm lm W) (hU : UIn B gu c k v vd l st W3) (hk : m.length ≤ kk) (hB : B0 ≤ B) : NodesIn W B0 W.heap.size Am kk cm m := by
  have h1 : OwnN W (W3.heap.size + 1) (.slice Am kk cm) lm := by unfold OwnN; rw [h.len]; exact h.own
  have h2 := OwnN.nodesIn (lo := B0) (hi := W.heap.size) h1 h.len (fun p hp => ((hU.after h.bel).np.leaf p (h.mem p hp)).leafIn.mono hB (Nat.le_refl _)) (by have := hU.np.hB; omega) (Nat.le_refl _)
  rw [h.nds, List.take_of_length_le hk] at h2
  exact h2
end
end Go.Proofs.YtjjlofaejpnnnaaGreatDoor

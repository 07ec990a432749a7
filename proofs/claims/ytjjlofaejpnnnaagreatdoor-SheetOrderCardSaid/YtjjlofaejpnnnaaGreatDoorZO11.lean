/-
  A PAGE IN MEMORY: a box that holds bytes of the call's own; WALKS over package sheet: long, line, show.
  BYTES THAT A CONVERSION MADE, and append of a string's bytes to them (a conversion's block bears a mark behind its last cell).
  WALKS over package names: Unquote.
  WALKS over package sheet: number, word; strings.Cut at one byte.
-/
import Derived.Test.YtjjlofaejpnnnaaGreatDoorZO10
import Derived.Deep.Cut
import Derived.Laws.CopyRow
import Derived.WalkMore
import Derived.Lib.IndexLaws
namespace Go.Proofs.YtjjlofaejpnnnaaGreatDoor
open Go Go.RowKit
set_option linter.unusedVariables false
/-- not bytes -/
def not8 (o : Obj) : Bool := match o with
  | .cells _ t _ => t != 5
  | _ => true
/-- what is kept by one who writes on the page: all below B, and all that isn't bytes, but the page's box -/
structure KeepP (gp B : Nat) (X X' : World) : Prop where
  os : X'.os = X.os
  tape : X'.tape = X.tape
  output : X'.output = X.output
  size : X.heap.size ≤ X'.heap.size
  same : ∀ (g : Nat) (o : Obj), g ≠ gp → X.heap[g]? = some o → g < B ∨ not8 o = true → X'.heap[g]? = some o
theorem KeepP.refl (gp B : Nat) (X : World) : KeepP gp B X X := ⟨rfl, rfl, rfl, Nat.le_refl _, fun _ _ _ h _ => h⟩
theorem KeepP.trans {gp B : Nat} {X Y Z : World} (h : KeepP gp B X Y) (h' : KeepP gp B Y Z) : KeepP gp B X Z := ⟨h'.os.trans h.os, h'.tape.trans h.tape, h'.output.trans h.output, Nat.le_trans h.size h'.size, fun g o h1 h2 h3 => h'.same g o h1 (h.same g o h1 h2 h3) h3⟩
theorem KeepP.after {gp B : Nat} {X Y : World} (h : Below X.heap.size X Y) : KeepP gp B X Y := ⟨h.os, h.tape, h.output, h.size, fun g o _ h2 _ => (h.block g (Array.getElem?_eq_some_iff.1 h2).1).trans h2⟩
theorem KeepP.below {gp B : Nat} {X Y : World} (h : KeepP gp B X Y) (hl : gp ≤ B) (hs : gp ≤ X.heap.size) : Below gp X Y := ⟨h.os, h.tape, h.output, h.size, fun g hg => by
  have e : X.heap[g]? = some X.heap[g] := Array.getElem?_eq_getElem (by omega)
  rw [e]
  exact h.same g _ (by omega) e (.inl (by omega))⟩
theorem KeepP.blk {gp B g : Nat} {X Y : World} {t : TypeId} {cs : Array Value} (h : KeepP gp B X Y) (hb : Blk X g t cs) (h2 : g ≠ gp) (ht : (t != 5) = true := by rfl) : Blk Y g t cs := h.same g _ h2 hb (.inr ht)
theorem KeepP.set {gp B i : Nat} {X : World} {u : Value} : KeepP gp B X (X.setCell ⟨gp, i, none⟩ u) := by
  have hb := (Below.refl gp X).setCell (p := ⟨gp, i, none⟩) (Nat.le_refl _) u
  exact ⟨hb.os, hb.tape, hb.output, hb.size, fun g o h1 h2 _ => (Below.heap_setCell X ⟨gp, i, none⟩ u g h1).trans h2⟩
theorem ownB_cells {X : World} {B : Nat} {v : Value} {L : List UInt8} (h : ownB X B v L) : ∀ k, v.ownBlock = some k → B ≤ k ∧ ∃ cs fr, X.heap[k]? = some (.cells cs 5 fr) := by
  intro k hk
  rcases h.2 with ⟨rfl, _⟩ | ⟨g, cap, cur, rfl, hb, hg, _⟩
  · cases hk
  · obtain rfl : g = k := Option.some.inj hk
    exact ⟨hb, cur, _, hg⟩
theorem KeepP.grown {gp B : Nat} {X Y : World} {v : Value} {L : List UInt8} (ho : ownB X B v L) (hg : X.grownBy Y v.ownBlock) : KeepP gp B X Y :=
  ⟨hg.os, hg.tape, hg.output, hg.size, fun g o _ h2 h3 => (hg.block g (Array.getElem?_eq_some_iff.1 h2).1 (fun he => by
    obtain ⟨h4, cs, fr, h5⟩ := ownB_cells ho g he.symm
    rcases h3 with h3 | h3
    · omega
    · rw [h5] at h2
      obtain rfl := Option.some.inj h2
      simp [not8] at h3)).trans h2⟩
/-- the page's box, and its bytes -/
structure PB (gp B : Nat) (L : List UInt8) (v : Value) (X : World) : Prop where
  t : Blk X gp 65 #[v]
  o : ownB X B v L
  lt : gp < B
  sz : B ≤ X.heap.size
section
variable {gp B : Nat} {L L' : List UInt8} {v v' : Value} {X Y : World}
theorem PB.after (h : PB gp B L v X) (hb : Below X.heap.size X Y) : PB gp B L v Y := ⟨h.t.after hb, h.o.below hb, h.lt, Nat.le_trans h.sz hb.size⟩
theorem ownB_set {g : Nat} {u : Value} (h : ownB X B v L) (hg : g < B) : ownB (X.setCell ⟨g, 0, none⟩ u) B v L := by
  refine ⟨h.1, ?_⟩
  rcases h.2 with hn | ⟨k, cap, cur, rfl, hb, hgg, rest⟩
  · exact .inl hn
  · exact .inr ⟨k, cap, cur, rfl, hb, (Below.heap_setCell X ⟨g, 0, none⟩ u k (by show k ≠ g; omega)).trans hgg, rest⟩
theorem PB.put (h : PB gp B L v X) (hb : X.grownBy Y v.ownBlock) (ho : ownB Y B v' L') : PB gp B L' v' (Y.setCell ⟨gp, 0, none⟩ v') := by
  have hlt := h.lt
  have ht : Blk Y gp 65 #[v] := h.t.grown hb (fun he => by have := (ownB_cells h.o gp he.symm).1; omega)
  refine ⟨?_, ownB_set ho h.lt, h.lt, ?_⟩
  · have := ht.set_ 0 v'
    simpa using this
  · have h1 := ((Below.refl gp Y).setCell (p := ⟨gp, 0, none⟩) (Nat.le_refl _) v').size
    have h2 := h.sz
    have h3 := hb.size
    omega
theorem PB.box (h : PB gp B L v X) (hb : X.grownBy Y v.ownBlock) : Blk Y gp 65 #[v] := h.t.grown hb (fun he => by have := (ownB_cells h.o gp he.symm).1; have := h.lt; omega)
theorem PB.alloc (h : PB gp B L v X) (o : Obj) : PB gp B L v (X.alloc o) := h.after ((Below.refl _ _).alloc (Nat.le_refl _) o)
end
/-- append of bytes that lie in memory, and of a string's: what else is kept -/
theorem app_bytesG {w : World} {ops : Array Oper} {rest : List Oper} {o : Oper} {a : Act} {Q : Exit → Act → World → Prop} (hgd : o.guard = none) (s x : Operand)
    (ho : o.op = .call { callee := .builtin .append, args := #[s, x], argTypes := #[63, 63] })
    (B : Nat) (v : Value) (l : List UInt8) (hs : a.eval s = v) (hown : ownB w B v l) (ad : Addr) (m c : Nat) (news : List UInt8) (hx : a.eval x = .slice (some ad) m c) (hl : news.length = m)
    (hnews : ∀ j u, (news.map enc)[j]? = some u → w.cell? (ad.add j) = some u) (hroom : l.length + m ≤ 140737488355328) (hB : B ≤ w.heap.size)
    (h : ∀ v' w', ownB w' B v' (l ++ news) → w.grownBy w' v.ownBlock → wpList Tryz.prog ops Q rest (a.put o.dst v') w') : wpList Tryz.prog ops Q (o :: rest) a w := by
  obtain ⟨i0, hi, hz0, hz1, hz2⟩ := info_parts byteInfo
  refine wpList_append_own w hgd s x _ ho B 5 i0 (.int .u8 0) 1 1 Tryz.underlying63 hi hz0 hz1 hz2 rfl (by decide) v l.length (l.map enc) hs hown ad m c (news.map enc) hx (by simp [hl]) hnews (enc_one _) (by unfold maxLen; omega) (by omega) hB ?_
  intro v' w' hown' hg _
  refine h v' w' ?_ hg
  unfold ownB
  rw [List.length_append, List.map_append, hl]
  exact hown'
theorem app_strG {w : World} {ops : Array Oper} {rest : List Oper} {o : Oper} {a : Act} {Q : Exit → Act → World → Prop} (hgd : o.guard = none) (s x : Operand)
    (ho : o.op = .call { callee := .builtin .append, args := #[s, x], argTypes := #[63, 9] })
    (B : Nat) (v : Value) (l : List UInt8) (hs : a.eval s = v) (hown : ownB w B v l) (t : ByteArray) (hx : a.eval x = .string t) (hroom : l.length + t.size ≤ 140737488355328) (hB : B ≤ w.heap.size)
    (h : ∀ v' w', ownB w' B v' (l ++ t.data.toList) → w.grownBy w' v.ownBlock → wpList Tryz.prog ops Q rest (a.put o.dst v') w') : wpList Tryz.prog ops Q (o :: rest) a w := by
  obtain ⟨i0, hi, hz0, hz1, hz2⟩ := info_parts byteInfo
  refine Lib.wpList_append_own_string w hgd s x _ _ ho B 5 i0 Tryz.underlying63 Tryz.underlying9 hi hz0 hz1 hz2 v l.length (l.map enc) hs hown t hx (by unfold maxLen; omega) (by omega) hB ?_
  intro v' w' hown' hg _
  refine h v' w' ?_ hg
  unfold ownB
  rw [List.length_append, List.map_append, Array.length_toList]
  exact hown'
def LineP (gp B : Nat) (X : World) (L' : List UInt8) (e : Ending) (X' : World) : Prop := e = .returned (.tuple #[]) ∧ (∃ v', PB gp B L' v' X') ∧ KeepP gp B X X'
theorem own_len {X : World} {B : Nat} {v : Value} {L : List UInt8} (h : ownB X B v L) : ∃ A c, v = .slice A L.length c ∧ L.length ≤ 9223372036854775807 := by
  rcases h.2 with ⟨rfl, h0⟩ | ⟨g, cap, cur, rfl, hbg, hgg, hle, hmax, _⟩
  · exact ⟨none, 0, by rw [h0], by omega⟩
  · exact ⟨_, _, rfl, by unfold maxLen at hmax; omega⟩
theorem own_sl {X : World} {B : Nat} {v : Value} {L : List UInt8} (h : ownB X B v L) : ∃ A m c, v = .slice A m c := let ⟨A, c, e, _⟩ := own_len h; ⟨A, _, c, e⟩
theorem long_any (X : World) (gp B : Nat) (L : List UInt8) (v : Value) (h : PB gp B L v X) : Calls Tryz.prog 29 #[.pointer (some ⟨gp, 0, none⟩)] X fun e X' => e = .returned (.bool (decide (1048576 < L.length))) ∧ X = X' := by
  obtain ⟨A, c, rfl, hm⟩ := own_len h.o
  have cx := (h.t.cell 0).trans (show _ = some (.slice A L.length c) from rfl)
  by_cases hl : 1048576 < L.length
  · have h1 : decide (1048576 < L.length) = true := by simpa using hl
    have h2 : (1048576 : Int) < (L.length : Int) := by omega
    rw [h1]
    clear h1 h
    go_enter Tryz.func29, Tryz.ntmps29
    go_wp2_with fail
    go_ret
    exact ⟨rfl, rfl⟩
  · have h1 : decide (1048576 < L.length) = false := by simpa using hl
    have h2 : ¬ (1048576 : Int) < (L.length : Int) := by omega
    rw [h1]
    clear h1 h
    go_enter Tryz.func29, Tryz.ntmps29
    go_wp2_with fail
    go_ret
    exact ⟨rfl, rfl⟩
set_option maxRecDepth 20000 in
set_option maxHeartbeats 3200000 in
theorem line_any (X : World) (gp B : Nat) (L : List UInt8) (v : Value) (k : Nat) (s : ByteArray) (h : PB gp B L v X) (hk : k ≤ 64) (hs : s.size ≤ 70368744177000) :
    Calls Tryz.prog 24 #[.pointer (some ⟨gp, 0, none⟩), .int .i64 k, .string s] X (LineP gp B X (pageA L (bl k ++ s.data.toList ++ [10]))) := by
  have HP := Lib.hid h
  have HLo := Lib.hid (long_any X gp B L v h)
  have hlt := h.lt
  clear h
  by_cases hl : 1048576 < L.length
  · have h1 : decide (1048576 < L.length) = true := by simpa using hl
    rw [h1] at HLo
    have HA : Hid (pageA L (bl k ++ s.data.toList ++ [10]) = L) := Lib.hid (by unfold pageA; rw [if_pos hl])
    rw [HA.out]
    clear h1 hl
    go_enter Tryz.func24, Tryz.ntmps24
    go_wp2_with (go_at_call 29; refine HLo.out.mono ?_; rintro e X2 ⟨rfl, rfl⟩)
    go_end0
    exact ⟨rfl, ⟨_, HP.out⟩, KeepP.refl _ _ _⟩
  · have h1 : decide (1048576 < L.length) = false := by simpa using hl
    rw [h1] at HLo
    have HA : Hid (pageA L (bl k ++ s.data.toList ++ [10]) = L ++ bl k ++ s.data.toList ++ [10]) := Lib.hid (by unfold pageA; rw [if_neg hl]; simp only [List.append_assoc])
    rw [HA.out]
    clear h1
    have hLl : L.length ≤ 1048576 := by omega
    have HP0 : Hid (PB gp B (L ++ bl 0) v X) := Lib.hid (by rw [show bl 0 = [] from rfl, List.append_nil]; exact HP.out)
    go_enter Tryz.func24, Tryz.ntmps24
    go_wp2_with (go_at_call 29; refine HLo.out.mono ?_; rintro e X2 ⟨rfl, rfl⟩)
    go_loopw [9] (fun i wr => ∃ (j : Nat), j ≤ k ∧ i = .int .i64 j ∧ Hid (∃ v, PB gp B (L ++ bl j) v wr) ∧ Hid (KeepP gp B X wr)) (fun i _ => k - (intOf i).toNat)
    case atStart => exact ⟨0, Nat.zero_le _, rfl, Lib.hid ⟨_, HP0.out⟩, Lib.hid (KeepP.refl _ _ _)⟩
    case round =>
      rename World => wo
      obtain ⟨j, hj, rfl, HV, HK⟩ := hrel
      obtain ⟨v1, hv1⟩ := HV.out
      have cx := (hv1.t.cell 0).trans (show _ = some v1 from rfl)
      have HP1 := Lib.hid hv1
      clear hv1
      by_cases hjk : j < k
      · have hsz := HP1.out.sz
        go_wp2_with (at_builtin; go_must (refine app_bytesG rfl (.tmp 15) (.tmp 16) rfl B v1 (L ++ bl j) rfl (HP1.out.o.alloc _) ⟨wo.heap.size, 0, none⟩ 1 1 [32] rfl rfl (cells_new wo _ _ _ rfl) (by rw [List.length_append, bl_len]; omega) (by simp; omega) ?_; intro v2 w2 hown2 hb2; obtain ⟨A2, m2, c2, rfl⟩ := own_sl hown2; have HP2 := Lib.hid ((HP1.out.alloc (.cells #[.int .u8 32] 5)).put hb2 hown2); have HK2 : Hid (KeepP gp B X (w2.setCell ⟨gp, 0, none⟩ (.slice A2 m2 c2))) := Lib.hid (HK.out.trans ((KeepP.after ((Below.refl _ _).alloc (Nat.le_refl _) _)).trans ((KeepP.grown (HP1.out.o.alloc _) hb2).trans KeepP.set))); have ht2 := (HP1.out.alloc (.cells #[.int .u8 32] 5)).box hb2; have cz := (ht2.cell 0).trans (show _ = some v1 from rfl); have fz := ht2.frozen 0; clear hown2 hb2 ht2))
        go_roundw
        case rel => exact ⟨j + 1, by omega, by go_num, Lib.hid ⟨_, by rw [bl_succ, ← List.append_assoc]; exact HP2.out⟩, HK2⟩
        case measure => simp [intOf]; omega
      · obtain rfl : j = k := by omega
        have hsz := HP1.out.sz
        go_upto_region 6 with (at_builtin; go_must (refine app_strG rfl (.tmp 25) (.tmp 26) rfl B v1 (L ++ bl j) rfl HP1.out.o s rfl (by rw [List.length_append, bl_len]; omega) hsz ?_; intro v2 w2 hown2 hb2; obtain ⟨A2, m2, c2, rfl⟩ := own_sl hown2; have HP2 := Lib.hid (HP1.out.put hb2 hown2); have HK2 : Hid (KeepP gp B X (w2.setCell ⟨gp, 0, none⟩ (.slice A2 m2 c2))) := Lib.hid (HK.out.trans ((KeepP.grown HP1.out.o hb2).trans KeepP.set)); have ht2 := HP1.out.box hb2; have cz := (ht2.cell 0).trans (show _ = some v1 from rfl); have fz := ht2.frozen 0; clear hown2 hb2 ht2))
        generalize w2.setCell ⟨gp, 0, none⟩ (.slice A2 m2 c2) = w3 at HP2 HK2 ⊢
        have cx3 := (HP2.out.t.cell 0).trans (show _ = some (.slice A2 m2 c2) from rfl)
        have hsz3 := HP2.out.sz
        have hll : (L ++ bl j ++ s.data.toList).length = L.length + j + s.size := by simp only [List.length_append, bl_len, Array.length_toList]; rfl
        go_wp2_with (at_builtin; go_must (refine app_bytesG rfl (.tmp 34) (.tmp 35) rfl B (.slice A2 m2 c2) (L ++ bl j ++ s.data.toList) rfl (HP2.out.o.alloc _) ⟨w3.heap.size, 0, none⟩ 1 1 [10] rfl rfl (cells_new w3 _ _ _ rfl) (by omega) (by simp; omega) ?_; intro v4 w4 hown4 hb4; obtain ⟨A4, m4, c4, rfl⟩ := own_sl hown4; have HP4 := Lib.hid ((HP2.out.alloc (.cells #[.int .u8 10] 5)).put hb4 hown4); have HK4 : Hid (KeepP gp B X (w4.setCell ⟨gp, 0, none⟩ (.slice A4 m4 c4))) := Lib.hid (HK2.out.trans ((KeepP.after ((Below.refl _ _).alloc (Nat.le_refl _) _)).trans ((KeepP.grown (HP2.out.o.alloc _) hb4).trans KeepP.set))); have ht4 := (HP2.out.alloc (.cells #[.int .u8 10] 5)).box hb4; have cz4 := (ht4.cell 0).trans (show _ = some (.slice A2 m2 c2) from rfl); have fz4 := ht4.frozen 0; clear hown4 hb4 ht4))
        go_end0
        exact ⟨rfl, ⟨_, HP4.out⟩, HK4.out⟩
end Go.Proofs.YtjjlofaejpnnnaaGreatDoor
namespace Go.Proofs.YtjjlofaejpnnnaaGreatDoor
open Go Go.RowKit
set_option linter.unusedVariables false
/-- the slice v of bytes holds l, in a block of the call's own (from B on), none of its cells frozen -/
def ownF (w : World) (B : Nat) (v : Value) (l : List UInt8) : Prop :=
  ∃ (g cap : Nat) (cur : Array Value) (fr : Nat × Nat), v = .slice (some ⟨g, 0, none⟩) l.length cap ∧ B ≤ g ∧ w.heap[g]? = some (.cells cur 5 fr) ∧ (fr.2 = 0 ∨ cap ≤ fr.1) ∧ l.length ≤ cap ∧ cap ≤ maxLen ∧ cur.size = cap ∧ cur.toList.take l.length = l.map enc
theorem ownF.below {w w' : World} {B : Nat} {v : Value} {l : List UInt8} (h : ownF w B v l) (hb : Below w.heap.size w w') : ownF w' B v l := by
  obtain ⟨g, cap, cur, fr, h1, h2, h3, rest⟩ := h
  exact ⟨g, cap, cur, fr, h1, h2, (hb.block g (Array.getElem?_eq_some_iff.1 h3).1).trans h3, rest⟩
theorem ownF.lt {w : World} {B : Nat} {v : Value} {l : List UInt8} (h : ownF w B v l) : ∀ k, v.ownBlock = some k → B ≤ k ∧ k < w.heap.size := by
  obtain ⟨g, cap, cur, fr, rfl, h2, h3, rest⟩ := h
  intro k hk
  obtain rfl : g = k := Option.some.inj hk
  exact ⟨h2, (Array.getElem?_eq_some_iff.1 h3).1⟩
theorem ownF.form {w : World} {B : Nat} {v : Value} {l : List UInt8} (h : ownF w B v l) : ∃ A m c, v = .slice A m c ∧ m = l.length ∧ m ≤ 9223372036854775807 := by
  obtain ⟨g, cap, cur, fr, rfl, h2, h3, h4, h5, h6, _⟩ := h
  unfold maxLen at h6
  exact ⟨_, _, _, rfl, rfl, by omega⟩
/-- []byte(s) -/
theorem conv_bytes (w : World) (s : ByteArray) (hs : s.size ≤ 140737488355328) : ∃ v w', (convert 9 63 (.string s)).run Tryz.prog w = .ok v w' ∧ ownF w' w.heap.size v s.data.toList ∧ Below w.heap.size w w' := by
  have h0 := Lib.run_convert_string_bytes (P := Tryz.prog) w 9 63 5 s Tryz.underlying9 Tryz.underlying63 Tryz.underlying5
  have hge := grownCap_ge w s.size 0 5
  have hcm : grownCap w s.size 0 5 ≤ maxLen := grownCap_le_maxLen w s.size 0 5 (by unfold maxLen; omega)
  have hsl : s.data.toList.length = s.size := by rw [Array.length_toList]; rfl
  have hcs : (Lib.bytesCells w 5 s).size = grownCap w s.size 0 5 := by
    unfold Lib.bytesCells
    rw [Array.size_append, Array.size_map, Array.size_replicate]
    have : s.data.size = s.size := rfl
    omega
  refine ⟨_, _, h0, ⟨w.heap.size, _, _, _, by rw [hsl], Nat.le_refl _, Lib.bytesWorld_at_new w _ s, .inr (by rw [hcs]; exact Nat.le_refl _), by rw [hsl]; exact hge, hcm, hcs, ?_⟩, Joins.below_bytesWorld _ _ _ _ (Nat.le_refl _)⟩
  unfold Lib.bytesCells
  rw [Array.toList_append, Array.toList_map]
  have e : s.data.toList.length = (s.data.toList.map fun b => Value.int .u8 b.toNat).length := by rw [List.length_map]
  rw [e]
  exact List.take_left
/-- string(b) of such a slice -/
theorem conv_F {w : World} {B : Nat} {v : Value} {l : List UInt8} (h : ownF w B v l) : (convert 63 9 v).run Tryz.prog w = .ok (.string ⟨l.toArray⟩) w := by
  obtain ⟨g, cap, cur, fr, rfl, hbg, hg, hfr, hnc, hcm, hcs, htake⟩ := h
  rw [run_convert_bytes_string w _ _ _ _ _ _ Tryz.underlying63 Tryz.underlying5 Tryz.underlying9]
  have hc : ∀ j u, (l.map enc)[j]? = some u → w.cell? ((⟨g, 0, none⟩ : Addr).add j) = some u := by
    intro j u hj
    have hjl : j < l.length := by have := (List.getElem?_eq_some_iff.1 hj).1; simpa using this
    have e : (⟨g, 0, none⟩ : Addr).add j = ⟨g, j, none⟩ := by simp [Addr.add]; exact fun h => h.symm
    rw [e, cell_of_row w g j cur _ fr hg, ← Array.getElem?_toList]
    rw [← htake, List.getElem?_take, if_pos hjl] at hj
    exact hj
  have hload := run_loadCells_list (P := Tryz.prog) w ⟨g, 0, none⟩ (l.map enc) hc
  rw [List.length_map] at hload
  have := run_bytesToString (P := Tryz.prog) w ⟨g, 0, none⟩ l.length cap (l.map fun c => (c.toNat : Int)) (by rw [hload]; congr 2; simp [enc])
  rw [this, fold_push]
  simp
end Go.Proofs.YtjjlofaejpnnnaaGreatDoor
namespace Go.Proofs.YtjjlofaejpnnnaaGreatDoor
open Go Go.RowKit
set_option linter.unusedVariables false
def Unq (w : World) (r : List UInt8 × Int × Int) (e : Ending) (w' : World) : Prop := e = .returned (.tuple #[.string ⟨r.1.toArray⟩, .int .i64 r.2.1, .int .i64 r.2.2]) ∧ Below w.heap.size w w'
theorem unq_some {s : ByteArray} {t n : Nat} {L : List UInt8} (ht : t < s.size) (hq : s[t].toNat = 34) (h : scan s (t + 1) = (some L, n)) : unq s t = (L, (n : Int), 0) := by
  unfold unq
  rw [if_neg (by omega)]
  simp only [Int.toNat_natCast]
  rw [dif_pos ht, if_pos hq, h]
theorem unq_none {s : ByteArray} {t n : Nat} (ht : t < s.size) (hq : s[t].toNat = 34) (h : scan s (t + 1) = (none, n)) : unq s t = ([], (n : Int), 10) := by
  unfold unq
  rw [if_neg (by omega)]
  simp only [Int.toNat_natCast]
  rw [dif_pos ht, if_pos hq, h]
theorem unq_fin {w w' : World} {s : ByteArray} {t n : Int} {L : List UInt8} {c : Int} (h : unq s t = (L, n, c)) (hb : Below w.heap.size w w') :
    Unq w (unq s t) (.returned (.tuple #[.string ⟨L.toArray⟩, .int .i64 n, .int .i64 c])) w' := by
  rw [h]; exact ⟨rfl, hb⟩
def UnqRel (s : ByteArray) (t : Nat) (w : World) (v i : Value) (wr : World) : Prop :=
  ∃ (k : Nat) (l : List UInt8), k ≤ s.size ∧ i = .int .i64 k ∧ ownB wr w.heap.size v l ∧ l.length ≤ k ∧ Below w.heap.size w wr ∧ scan s (t + 1) = ((scan s k).1.map (l ++ ·), (scan s k).2)
theorem enc_ofNat {b : Nat} (h : b < 256) : (UInt8.ofNat b).toNat = b := by simp; omega
set_option maxHeartbeats 400000 in
theorem unquote_in (s : ByteArray) (t : Nat) (w : World) (hs : s.size + 8 ≤ 140737488355328) (ht : t < s.size) (hq : s[t].toNat = 34) :
    Calls Tryz.prog 84 #[.string s, .int .i64 t] w (Unq w (unq s t)) := by
  have h0 : ((s[t].toNat : Int) != 34) = false := by simp [hq]
  have h1 : ((t : Int) == (s.size : Int)) = false := by rw [beq_eq_false_iff_ne]; omega
  have h2 : decide ((t : Int) < 0) = false := by simp
  have h3 : decide (s.size < t) = false := by simp; omega
  have HQ := Lib.hid hq
  clear hq
  go_enter Tryz.func84, Tryz.ntmps84
  go_wp2_with fail
  go_step3
  go_wp2_with fail
  go_step3
  go_wp2_with fail
  go_loopw [7, 8] (fun v i wr => UnqRel s t w v i wr) (fun _ i _ => s.size - (intOf i).toNat)
  case atStart => exact ⟨t + 1, [], by omega, by go_num, ownB.nil _ _, by simp, Below.refl _ _, by simp⟩
  case round =>
    obtain ⟨k, l, hk, rfl, hown, hlen, hb, hs0⟩ := hrel
    have HS := Lib.hid hs0
    clear hs0
    have hszr : w.heap.size ≤ wr.heap.size := hb.size
    by_cases hlt : k < s.size
    · by_cases c1 : s[k].toNat = 34
      · have d1 : ((s[k].toNat : Int) == 34) = true := by rw [beq_iff_eq]; omega
        have HE := Lib.hid (scan_quote hlt c1)
        clear c1
        have hcv := conv_own hown
        go_wp2_with fail
        rw [Exit.noGoto_ret]
        go_ret3
        exact unq_fin (unq_some ht HQ.out (by rw [HS.out, HE.out]; simp)) hb
      · have d1 : ((s[k].toNat : Int) == 34) = false := by rw [beq_eq_false_iff_ne]; omega
        by_cases c2 : s[k].toNat = 92
        · have d2 : ((s[k].toNat : Int) == 92) = true := by rw [beq_iff_eq]; omega
          rcases hq : stepEsc s (k + 1) with ⟨n, r⟩
          have hst : stepAt s k hlt = (1 + n, r) := by unfold stepAt; rw [if_pos c2, hq]
          have hle := stepEsc_le (by omega) hq
          have H : Hid (stepEsc s ((k : Int) + 1).toNat = (n, r)) := Lib.hid (by rw [show ((k : Int) + 1).toNat = k + 1 from by omega]; exact hq)
          have hn := hle.1
          cases r with
          | none =>
            have HE := Lib.hid (scan_stop hlt c1 hst)
            clear c1 c2 hq hst hle
            go_wp2_with (go_at_call 110; refine (escaped_any s _ n none _ (by omega) (by omega) (by unfold maxLen; omega) H.out).mono ?_; rintro e w' ⟨rfl, rfl⟩)
            rw [Exit.noGoto_ret]
            go_ret3
            exact unq_fin (unq_none ht HQ.out (by rw [HS.out, HE.out]; simp; omega)) hb
          | some b =>
            have hb256 : b < 256 := hle.2 b rfl
            have HE := Lib.hid (scan_step hlt c1 hst)
            clear c1 c2 hq hst hle
            go_wp2_with (first | (go_at_call 110; refine (escaped_any s _ n (some b) _ (by omega) (by omega) (by unfold maxLen; omega) H.out).mono ?_; rintro e w' ⟨rfl, rfl⟩) | (at_builtin; refine app_bytes rfl _ _ rfl w.heap.size _ _ rfl (hown.alloc _) ⟨wr.heap.size, 0, none⟩ 1 1 [UInt8.ofNat b] rfl rfl (cells_new wr _ _ _ (by simp [enc, enc_ofNat hb256])) (by omega) (by simp; omega) ?_; intro v2 w2 hown2 hb2))
            go_roundw
            case rel => exact ⟨k + (1 + n), l ++ [UInt8.ofNat b], by omega, by go_num, hown2, by simp; omega, (hb.alloc hszr _).trans hb2, by rw [HS.out, HE.out]; simp [Option.map_map, Function.comp_def]⟩
            case measure => simp [intOf]; omega
        · have d2 : ((s[k].toNat : Int) == 92) = false := by rw [beq_eq_false_iff_ne]; omega
          cases hn : numBQ (s[k].toNat : Int) with
          | true =>
            have hst : stepAt s k hlt = (0, none) := by unfold stepAt; rw [if_neg c2, if_pos (Or.inl hn)]
            have HE := Lib.hid (scan_stop hlt c1 hst)
            have HN := Lib.hid hn
            clear c1 c2 hst hn
            go_wp2_with (go_at_call 111; refine (numbered_yes _ _ HN.out).mono ?_; rintro e w' ⟨rfl, rfl⟩)
            rw [Exit.noGoto_ret]
            go_ret3
            exact unq_fin (unq_none ht HQ.out (by rw [HS.out, HE.out]; simp)) hb
          | false =>
            have HN := Lib.hid hn
            by_cases c3 : s[k].toNat = 10
            · have d3 : ((s[k].toNat : Int) == 10) = true := by rw [beq_iff_eq]; omega
              have hst : stepAt s k hlt = (0, none) := by unfold stepAt; rw [if_neg c2, if_pos (Or.inr c3)]
              have HE := Lib.hid (scan_stop hlt c1 hst)
              clear c1 c2 c3 hst hn
              go_wp2_with (go_at_call 111; refine (numbered_no _ _ HN.out).mono ?_; rintro e w' ⟨rfl, rfl⟩)
              rw [Exit.noGoto_ret]
              go_ret3
              exact unq_fin (unq_none ht HQ.out (by rw [HS.out, HE.out]; simp)) hb
            · have d3 : ((s[k].toNat : Int) == 10) = false := by rw [beq_eq_false_iff_ne]; omega
              have hst : stepAt s k hlt = (1, some s[k].toNat) := by unfold stepAt; rw [if_neg c2, if_neg (by rw [hn]; simp [c3])]
              have HE := Lib.hid (scan_step hlt c1 hst)
              clear c1 c2 c3 hst hn
              go_wp2_with (first | (go_at_call 111; refine (numbered_no _ _ HN.out).mono ?_; rintro e w' ⟨rfl, rfl⟩) | (at_builtin; refine app_bytes rfl _ _ rfl w.heap.size _ _ rfl (hown.alloc _) ⟨wr.heap.size, 0, none⟩ 1 1 [s[k]] rfl rfl (cells_new wr _ _ _ rfl) (by omega) (by simp; omega) ?_; intro v2 w2 hown2 hb2))
              go_roundw
              case rel => exact ⟨k + 1, l ++ [s[k]], by omega, by go_num, hown2, by simp; omega, (hb.alloc hszr _).trans hb2, by rw [HS.out, HE.out]; simp [Option.map_map, Function.comp_def]⟩
              case measure => simp [intOf]; omega
    · have HE := Lib.hid (scan_end hlt)
      go_wp2_with fail
      rw [Exit.noGoto_ret]
      go_ret3
      exact unq_fin (unq_none ht HQ.out (by rw [HS.out, HE.out]; rfl)) hb
set_option maxHeartbeats 400000 in
theorem unquote_any (s : ByteArray) (t : Int) (w : World) (hs : s.size + 8 ≤ 140737488355328) :
    Calls Tryz.prog 84 #[.string s, .int .i64 t] w (Unq w (unq s t)) := by
  by_cases h0 : t < 0 ∨ (s.size : Int) < t
  · have hu : unq s t = ([], 0, 2) := by unfold unq; rw [if_pos h0]
    have HU := Lib.hid hu
    clear hu
    rcases h0 with h0 | h0
    · go_enter Tryz.func84, Tryz.ntmps84
      go_wp2_with fail
      go_step3
      go_wp2_with fail
      rw [Exit.noGoto_ret]
      go_ret3
      exact unq_fin HU.out (Below.refl _ _)
    · have h1 : ¬ t < 0 := by omega
      go_enter Tryz.func84, Tryz.ntmps84
      go_wp2_with fail
      go_step3
      go_wp2_with fail
      rw [Exit.noGoto_ret]
      go_ret3
      exact unq_fin HU.out (Below.refl _ _)
  · obtain ⟨t, rfl⟩ := Int.eq_ofNat_of_zero_le (show 0 ≤ t by omega)
    by_cases ht : t < s.size
    · by_cases hq : s[t].toNat = 34
      · exact unquote_in s t w hs ht hq
      · have hu : unq s t = ([], (t : Int), 10) := by
          unfold unq; rw [if_neg h0]; simp only [Int.toNat_natCast]; rw [dif_pos ht, if_neg hq]
        have HU := Lib.hid hu
        have h4 : ((s[t].toNat : Int) != 34) = true := by rw [bne_iff_ne]; omega
        have h1 : ((t : Int) == (s.size : Int)) = false := by rw [beq_eq_false_iff_ne]; omega
        have h2 : decide ((t : Int) < 0) = false := by simp
        have h3 : decide (s.size < t) = false := by simp; omega
        clear hu hq h0
        go_enter Tryz.func84, Tryz.ntmps84
        go_wp2_with fail
        go_step3
        go_wp2_with fail
        rw [Exit.noGoto_ret]
        go_ret3
        exact unq_fin HU.out (Below.refl _ _)
    · have hu : unq s t = ([], (t : Int), 10) := by
        unfold unq; rw [if_neg h0]; simp only [Int.toNat_natCast]; rw [dif_neg ht]
      have HU := Lib.hid hu
      have h1 : ((t : Int) == (s.size : Int)) = true := by rw [beq_iff_eq]; omega
      have h2 : decide ((t : Int) < 0) = false := by simp
      have h3 : decide (s.size < t) = false := by simp; omega
      clear hu h0
      go_enter Tryz.func84, Tryz.ntmps84
      go_wp2_with fail
      go_step3
      go_wp2_with fail
      rw [Exit.noGoto_ret]
      go_ret3
      exact unq_fin HU.out (Below.refl _ _)
end Go.Proofs.YtjjlofaejpnnnaaGreatDoor
namespace Go.Proofs.YtjjlofaejpnnnaaGreatDoor
open Go Go.RowKit
set_option linter.unusedVariables false
theorem index_cut (c : UInt8) : ∀ l : List UInt8, Lib.indexByte l c = if l.contains c = true then ((cutA c l).length : Int) else -1
  | [] => rfl
  | b :: l => by
    have ih := index_cut c l
    unfold Lib.indexByte
    by_cases hb : b = c
    · subst hb
      have e : cutA b (b :: l) = [] := by unfold cutA; rw [List.takeWhile_cons]; simp
      rw [e]
      simp
    · have hbc : (b == c) = false := by simpa using hb
      have hcb : (c == b) = false := by simpa using fun e : c = b => hb e.symm
      have e : cutA c (b :: l) = b :: cutA c l := by unfold cutA; rw [List.takeWhile_cons, if_pos (by simpa using hb)]
      rw [hbc, e, ih, List.contains_cons, hcb, Bool.false_or]
      by_cases hc : l.contains c = true
      · rw [if_pos hc, if_pos hc, List.length_cons]
        have : (((cutA c l).length : Int) == -1) = false := by rw [beq_eq_false_iff_ne]; omega
        rw [this]
        simp
      · rw [if_neg hc, if_neg hc]
        simp
theorem cutA_take (c : UInt8) (l : List UInt8) : cutA c l = l.take (cutA c l).length := List.prefix_iff_eq_take.1 (List.takeWhile_prefix _)
theorem cutA_lt {c : UInt8} {l : List UInt8} (h : l.contains c = true) : (cutA c l).length < l.length := by
  have hm : c ∈ l := by simpa using h
  rcases Nat.lt_or_ge (cutA c l).length l.length with hl | hl
  · exact hl
  · exfalso
    have e := cutA_take c l
    rw [List.take_of_length_le hl] at e
    rw [← e] at hm
    have := takeWhile_mem hm
    simp at this
theorem cut_no {c : UInt8} {l : List UInt8} (h : ¬ l.contains c = true) : cutA c l = l ∧ cutB c l = [] := cut_all fun x hx e => h (by subst e; simpa using hx)
/-- is the byte there? -/
def hasS (l : List UInt8) (c : UInt8) : Bool := l.contains c
/-- cut at one byte -/
def CutP (c : UInt8) (s : ByteArray) (w : World) (e : Ending) (w' : World) : Prop :=
  ∃ a b : ByteArray, e = .returned (.tuple #[.string a, .string b, .bool (hasS s.data.toList c)]) ∧ a.data.toList = cutA c s.data.toList ∧ b.data.toList = cutB c s.data.toList ∧ a.size ≤ s.size ∧ b.size ≤ s.size ∧ Below w.heap.size w w'
theorem sz_of {a : ByteArray} {l : List UInt8} (h : a.data.toList = l) : a.size = l.length := by rw [← h, toList_eq]
theorem cutA_le (c : UInt8) (l : List UInt8) : (cutA c l).length ≤ l.length := by rw [cutA_take]; exact List.length_take_le' _ _
theorem cutB_le (c : UInt8) (l : List UInt8) : (cutB c l).length ≤ l.length := by unfold cutB; rw [List.length_drop, List.length_drop]; omega
theorem cutP {c : UInt8} {s a b : ByteArray} {w w' : World} {x : Bool} (hx : x = hasS s.data.toList c) (ha : a.data.toList = cutA c s.data.toList) (hb : b.data.toList = cutB c s.data.toList) (h : Below w.heap.size w w') : CutP c s w (.returned (.tuple #[.string a, .string b, .bool x])) w' :=
  ⟨a, b, by rw [hx], ha, hb, by rw [sz_of ha, ← toList_eq]; exact cutA_le _ _, by rw [sz_of hb, ← toList_eq]; exact cutB_le _ _, h⟩
set_option maxHeartbeats 1600000 in
theorem lcut_any (s : ByteArray) (c : UInt8) (w : World) (hs : s.size ≤ 281474976710656) : Calls Tryz.prog 40 #[.string s, .string ⟨#[c]⟩] w (CutP c s w) := by
  have HI := Lib.hid (Tryz.stringslite_Index_one s c w)
  rw [index_cut] at HI
  by_cases hc : s.data.toList.contains c = true
  · rw [if_pos hc] at HI
    have hlt := cutA_lt hc
    rw [toList_eq] at hlt
    have HA := Lib.hid (cutA_take c s.data.toList)
    have HC := Lib.hid hc
    obtain ⟨k, hk⟩ : ∃ k, (cutA c s.data.toList).length = k := ⟨_, rfl⟩
    have HK := Lib.hid hk
    rw [hk] at HI hlt
    clear hc hk
    have h0 : (0 : Int) ≤ (k : Int) := by omega
    have hw1 : IntKind.i64.wrap ((k : Int) + 1) = (k : Int) + 1 := IntWalk.i64_in _ (by omega)
    have hb1 : (0 : Int) ≤ (k : Int) ∧ (k : Int) ≤ (s.size : Int) := by omega
    have hb2 : (0 : Int) ≤ (k : Int) + 1 ∧ (k : Int) + 1 ≤ (s.size : Int) := by omega
    go_enter Tryz.func40, Tryz.ntmps40
    go_wp2_with (go_at_call 75; refine HI.out.mono ?_; rintro e w' ⟨rfl, rfl⟩)
    go_quiet (fail)
    go_wp2_with fail
    go_ret3
    refine cutP HC.out.symm ?_ ?_ ?_
    · rw [HA.out, HK.out, Lib.extract_data]; simp
    · unfold cutB
      rw [HK.out, List.drop_drop, Lib.extract_data]
      rw [List.take_of_length_le (by rw [List.length_drop, toList_eq]; omega)]
    · exact below_drewN (Below.refl _ _) _
  · rw [if_neg hc] at HI
    have HC := Lib.hid (cut_no hc)
    have HF : Hid (s.data.toList.contains c = false) := Lib.hid (by simpa using hc)
    clear hc
    go_enter Tryz.func40, Tryz.ntmps40
    go_wp2_with (go_at_call 75; refine HI.out.mono ?_; rintro e w' ⟨rfl, rfl⟩)
    go_ret3
    exact cutP HF.out.symm HC.out.1.symm HC.out.2.symm (Below.refl _ _)
theorem cut_any (s : ByteArray) (c : UInt8) (w : World) (hs : s.size ≤ 281474976710656) : Calls Tryz.prog 18 #[.string s, .string ⟨#[c]⟩] w (CutP c s w) := by
  have HI := Lib.hid (lcut_any s c w hs)
  go_enter Tryz.func18, Tryz.ntmps18
  go_wp2_with (go_at_call 40; refine HI.out.mono ?_; rintro e w' ⟨a, b, rfl, ha, hb, h1, h2, h3⟩)
  go_ret3
  exact ⟨a, b, rfl, ha, hb, h1, h2, h3⟩
/-- a number, or none -/
def NumP (w : World) (r : Option Int) (e : Ending) (w' : World) : Prop := e = .returned (.tuple #[.int .i64 (r.getD 0), .bool r.isSome]) ∧ Below w.heap.size w w'
theorem numP {w w' : World} {r : Option Int} {n : Int} {b : Bool} (hn : n = r.getD 0) (hb : b = r.isSome) (h : Below w.heap.size w w') : NumP w r (.returned (.tuple #[.int .i64 n, .bool b])) w' := by subst hn hb; exact ⟨rfl, h⟩
theorem int_none {s : ByteArray} {w : World} (hs : s.size ≤ 281474976710656) (hE : Env w) (h : intT s.data.toList = none) : Calls Tryz.prog 39 #[.string s] w fun e w' => e = .returned (.tuple #[.int .i64 0, .int .i64 2]) ∧ Below w.heap.size w w' := by
  have := int_any s w hs hE
  rw [h] at this
  exact this
theorem int_some {s : ByteArray} {w : World} {n : Int} (hs : s.size ≤ 281474976710656) (hE : Env w) (h : intT s.data.toList = some n) : Calls Tryz.prog 39 #[.string s] w fun e w' => e = .returned (.tuple #[.int .i64 n, .int .i64 0]) ∧ Below w.heap.size w w' := by
  have := int_any s w hs hE
  rw [h] at this
  exact this
set_option maxHeartbeats 800000 in
theorem number_any (s : ByteArray) (most : Int) (w : World) (hs : s.size ≤ 281474976710656) (hE : Env w) : Calls Tryz.prog 76 #[.string s, .int .i64 most] w (NumP w (numberV s.data.toList (most + 1))) := by
  cases hi : intT s.data.toList with
  | none =>
    have HI := Lib.hid (int_none hs hE hi)
    have HR : Hid (numberV s.data.toList (most + 1) = none) := Lib.hid (by unfold numberV; rw [hi])
    clear hi hE
    rw [HR.out]
    go_enter Tryz.func76, Tryz.ntmps76
    go_wp2_with (go_at_call 39; refine HI.out.mono ?_; rintro e w' ⟨rfl, hb⟩)
    go_ret2
    exact numP rfl rfl hb
  | some n =>
    have HI := Lib.hid (int_some hs hE hi)
    by_cases h1 : n < 1
    · have HR : Hid (numberV s.data.toList (most + 1) = none) := Lib.hid (by unfold numberV; rw [hi]; simp only; rw [if_neg (by omega)])
      clear hi hE
      rw [HR.out]
      go_enter Tryz.func76, Tryz.ntmps76
      go_wp2_with (go_at_call 39; refine HI.out.mono ?_; rintro e w' ⟨rfl, hb⟩)
      go_ret2
      exact numP rfl rfl hb
    · by_cases h2 : most < n
      · have HR : Hid (numberV s.data.toList (most + 1) = none) := Lib.hid (by unfold numberV; rw [hi]; simp only; rw [if_neg (by omega)])
        clear hi hE
        rw [HR.out]
        go_enter Tryz.func76, Tryz.ntmps76
        go_wp2_with (go_at_call 39; refine HI.out.mono ?_; rintro e w' ⟨rfl, hb⟩)
        go_ret2
        exact numP rfl rfl hb
      · have HR : Hid (numberV s.data.toList (most + 1) = some n) := Lib.hid (by unfold numberV; rw [hi]; simp only; rw [if_pos (by omega)])
        clear hi hE
        rw [HR.out]
        go_enter Tryz.func76, Tryz.ntmps76
        go_wp2_with (go_at_call 39; refine HI.out.mono ?_; rintro e w' ⟨rfl, hb⟩)
        go_ret2
        exact numP rfl rfl hb
/-- a word in memory of its own, or none -/
def WordP (w : World) (s : ByteArray) (e : Ending) (w' : World) : Prop := e = .returned (.tuple #[.string (if wordL s.data.toList = true then s else ⟨#[]⟩), .bool (wordL s.data.toList)]) ∧ Below w.heap.size w w'
theorem wpList_convS {w w' : World} {ops : Array Oper} {rest : List Oper} {o : Oper} {a : Act} {Q : Exit → Act → World → Prop} (hgd : o.guard = none) {src dst : TypeId} (x : Operand) (ho : o.op = .convert src dst x)
    {v v' : Value} (hx : a.eval x = v) (hr : (convert src dst v).run Tryz.prog w = .ok v' w') (h : wpList Tryz.prog ops Q rest (a.put o.dst v') w') : wpList Tryz.prog ops Q (o :: rest) a w :=
  wpList_plain hgd fun K hK => by
    unfold Oper.wp execOp
    simp only [ho, hx, Sem.run_bind, Sem.run_pure, Result.andThen_ok, hr]
    exact hK _ _ h
theorem ba_listS (s : ByteArray) : (⟨s.data.toList.toArray⟩ : ByteArray) = s := by apply ByteArray.ext; simp
set_option maxHeartbeats 800000 in
theorem wordS_any (s : ByteArray) (w : World) (hs : s.size ≤ 140737488355328) : Calls Tryz.prog 83 #[.string s] w (WordP w s) := by
  have HW := Lib.hid (word_any s w (by unfold maxLen; omega))
  unfold wordB at HW
  unfold WordP
  cases hb : wordL s.data.toList with
  | false =>
    rw [hb] at HW
    clear hb
    go_enter Tryz.func83, Tryz.ntmps83
    go_wp2_with (go_at_call 64; refine HW.out.mono ?_; rintro e w' ⟨rfl, rfl⟩)
    go_ret2
    exact ⟨rfl, Below.refl _ _⟩
  | true =>
    rw [hb] at HW
    clear hb
    rw [if_pos rfl]
    obtain ⟨v, w1, hr1, ho1, hb1⟩ := conv_bytes w s hs
    have hr2 := conv_F ho1
    rw [ba_listS] at hr2
    have HR1 := Lib.hid hr1
    have HR2 := Lib.hid hr2
    have HB1 := Lib.hid hb1
    clear hr1 hr2 ho1 hb1 hs
    go_enter Tryz.func83, Tryz.ntmps83
    go_wp2_with (first | (go_at_call 64; refine HW.out.mono ?_; rintro e w' ⟨rfl, rfl⟩) | ((with_reducible show wpList _ _ _ (Oper.mk _ (Op.convert 9 63 _) _ _ _ _ :: _) _ _); go_must (refine wpList_convS rfl _ rfl rfl HR1.out ?_)) | ((with_reducible show wpList _ _ _ (Oper.mk _ (Op.convert 63 9 _) _ _ _ _ :: _) _ _); go_must (refine wpList_convS rfl _ rfl rfl HR2.out ?_)))
    go_ret2
    exact ⟨rfl, HB1.out⟩
end Go.Proofs.YtjjlofaejpnnnaaGreatDoor

/-
  WALKS over the statements' own functions: alike, same.
-/
import Derived.Test.YtinhlemebnlijaaDoorY14
import Derived.Test.YtinhlemebnlijaaDoorY17
import Derived.Deep.RegionHeld3
namespace Go.Proofs.YtinhlemebnlijaaDoor
open Go Go.RowKit
set_option linter.unusedVariables false
/-- a token but for its place -/
def Tok.core (k : Tok) : Tok := { k with place := 0 }
def AlikeL (l m : List Tok) : Prop := l.map Tok.core = m.map Tok.core
theorem core_eq {a b : Tok} (h : a.core = b.core) : a.kind = b.kind ∧ a.text = b.text ∧ a.int = b.int := by
  obtain ⟨k, t, n, p⟩ := a
  obtain ⟨k', t', n', p'⟩ := b
  simp only [Tok.core, Tok.mk.injEq, and_true] at h
  exact h
theorem AlikeL.len {l m : List Tok} (h : AlikeL l m) : l.length = m.length := by
  have := congrArg List.length h
  simpa using this
theorem AlikeL.at_ {l m : List Tok} (h : AlikeL l m) {i : Nat} {a b : Tok} (ha : l[i]? = some a) (hb : m[i]? = some b) : a.core = b.core := by
  have := congrArg (fun x => x[i]?) h
  simp only [List.getElem?_map, ha, hb, Option.map_some, Option.some.injEq] at this
  exact this
theorem AlikeL.refl (l : List Tok) : AlikeL l l := rfl
theorem alikeL_up (l : List Tok) (q : Nat) : AlikeL (l.map (·.up q)) l := by
  unfold AlikeL
  rw [List.map_map]
  rfl
set_option maxHeartbeats 1600000 in
theorem alike_true (kd n pl pl' : Int) (T : ByteArray) (w : World) : Calls Tryd.prog 29 #[.agg #[.int .i64 kd, .string T, .int .i64 n, .int .i64 pl], .agg #[.int .i64 kd, .string T, .int .i64 n, .int .i64 pl']] w (Tells1 w true) := by
  go_enter Tryd.func29, Tryd.ntmps29
  go_wp2_with fail
  go_ret
  exact tells1 (by simp) (((Below.refl _ _).alloc (Nat.le_refl _) _).alloc (by simp) _)
set_option maxHeartbeats 3200000 in
theorem same_true (w : World) (hi hi' : Nat) (A A' : Option Addr) (n c c' : Nat) (l m : List Tok) (h : TokIn w hi A n c l) (h' : TokIn w hi' A' n c' m) (hh : hi ≤ w.heap.size) (hh' : hi' ≤ w.heap.size) (ha : AlikeL l m) :
    Calls Tryd.prog 15 #[.slice A n c, .slice A' n c'] w (Tells1 w true) := by
  have hn := h.max
  have HI : Hid (∀ Y, Below w.heap.size w Y → TokIn Y hi A n c l) := Lib.hid fun Y hb => h.below (hb.mono hh)
  have HI' : Hid (∀ Y, Below w.heap.size w Y → TokIn Y hi' A' n c' m) := Lib.hid fun Y hb => h'.below (hb.mono hh')
  have HA := Lib.hid ha
  unfold maxLen at hn
  clear h h' ha
  go_enter Tryd.func15, Tryd.ntmps15
  go_wp2_with fail
  go_loopw [5] (fun i wr => ∃ k : Nat, k ≤ n ∧ i = .int .i64 k ∧ Below w.heap.size w wr) (fun i _ => n - (intOf i).toNat)
  case atStart => exact ⟨0, by omega, rfl, Below.refl _ _⟩
  case round =>
    obtain ⟨k, hk, rfl, hb⟩ := hrel
    by_cases hlt : k < n
    · obtain ⟨b, o, t, rfl, hbl, htk, hc⟩ := (HI.out wr hb).at_ hlt
      obtain ⟨b', o', t', rfl, hbl', htk', hc'⟩ := (HI'.out wr hb).at_ hlt
      obtain ⟨e0, e1, e2⟩ := core_eq (HA.out.at_ htk htk')
      have hin : ∀ Y, Below wr.heap.size wr Y → CellsAt Y b (o + k * 4) t ∧ CellsAt Y b' (o' + k * 4) t' := fun Y hY => ⟨hc.below hY (by have := hb.size; omega), hc'.below hY (by have := hb.size; omega)⟩
      have HIN : Hid (∀ Y, Below wr.heap.size wr Y → CellsAt Y b (o + k * 4) t ∧ CellsAt Y b' (o' + k * 4) t') := Lib.hid hin
      have HB := Lib.hid hb
      obtain ⟨kd', T', n', pl'⟩ := t'
      simp only at e0 e1 e2
      subst e0 e1 e2
      have hkeep : ∀ Y, Below wr.heap.size wr Y → Y.cell? ⟨b, o + k * 4, none⟩ = some (.int .i64 t.kind) ∧ Y.cell? ⟨b, o + k * 4 + 1, none⟩ = some (.string t.text) ∧ Y.cell? ⟨b, o + k * 4 + 2, none⟩ = some (.int .i64 t.int) ∧ Y.cell? ⟨b, o + k * 4 + 3, none⟩ = some (.int .i64 t.place) ∧ Y.cell? ⟨b', o' + k * 4, none⟩ = some (.int .i64 t.kind) ∧ Y.cell? ⟨b', o' + k * 4 + 1, none⟩ = some (.string t.text) ∧ Y.cell? ⟨b', o' + k * 4 + 2, none⟩ = some (.int .i64 t.int) ∧ Y.cell? ⟨b', o' + k * 4 + 3, none⟩ = some (.int .i64 pl') := fun Y hY => ⟨(hin Y hY).1.c0, (hin Y hY).1.c1, (hin Y hY).1.c2, (hin Y hY).1.c3, (hin Y hY).2.c0, (hin Y hY).2.c1, (hin Y hY).2.c2, (hin Y hY).2.c3⟩
      have HK := Lib.hid hkeep
      have g1 : (k : Int) < (n : Int) := by omega
      have g0 : (0 : Int) ≤ (k : Int) := by omega
      clear hc hc' hb htk htk' hin HIN hkeep
      go_wp2_with fail
      go_region_held3 (fun Y => Y.cell? ⟨b, o + k * 4, none⟩ = some (.int .i64 t.kind) ∧ Y.cell? ⟨b, o + k * 4 + 1, none⟩ = some (.string t.text) ∧ Y.cell? ⟨b, o + k * 4 + 2, none⟩ = some (.int .i64 t.int) ∧ Y.cell? ⟨b, o + k * 4 + 3, none⟩ = some (.int .i64 t.place) ∧ Y.cell? ⟨b', o' + k * 4, none⟩ = some (.int .i64 t.kind) ∧ Y.cell? ⟨b', o' + k * 4 + 1, none⟩ = some (.string t.text) ∧ Y.cell? ⟨b', o' + k * 4 + 2, none⟩ = some (.int .i64 t.int) ∧ Y.cell? ⟨b', o' + k * 4 + 3, none⟩ = some (.int .i64 pl')) (first | exact HK.out _ (Below.refl _ _) | exact HK.out _ (below_drew1 _) | exact HK.out _ ((below_drew1 _).trans (hb2.mono (by simp)))) ((first | (go_at_call 29; go_must (refine (alike_true t.kind t.int t.place pl' t.text _).mono ?_; rintro e w2 ⟨rfl, hb2⟩))))
      all_goals go_wp2_with fail
      all_goals exact ⟨⟨k + 1, by omega, by go_num, HB.out.trans (((below_drew1 wr).trans (hb2.mono (by simp))).mono HB.out.size)⟩, by simp [intOf]; omega⟩
    · go_wp2_with fail
      go_ret
      exact tells1 rfl hb
end Go.Proofs.YtinhlemebnlijaaDoor

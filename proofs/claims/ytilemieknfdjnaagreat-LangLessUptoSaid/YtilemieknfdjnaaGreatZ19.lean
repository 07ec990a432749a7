/-
  WALKS: the laws' awake: the chapter's definition is checked, compared and named as the chapter says.
  WHAT IS WRONG HANGS ON WHAT A DEFINITION SAYS ALONE; one element more behind a list that is right. No program stands in it.
  WALKS: rest, sizes; what a copy of a definition asks of sizes; errors that are told are none of nought.
  WALKS: the law LangHeals.
-/
import Derived.Test.YtilemieknfdjnaaGreatZ18
import Derived.IntWalk
import Derived.Deep.RegionHeld3
namespace Go.Proofs.YtilemieknfdjnaaGreat
open Go Go.RowKit Go.Sort
set_option linter.unusedVariables false
attribute [local go_sem ↓] Go.wp_at_zero Go.wp_at_succ
theorem encs_strC (l : List Bys) : encs l = strCells (l.map fun b => ⟨b.toArray⟩) := by
  unfold encs strCells enc
  rw [List.map_map]; rfl
def smallM (p k r c : Nat) (mx : Int) : LangM :=
  ⟨⟨#[97]⟩, 1, ⟨none, 0, 0⟩, [], ⟨some ⟨c, 0, none⟩, 2, 2⟩,
    [(⟨⟨#[78, 117, 109]⟩, ⟨#[]⟩, false, [⟨⟨#[118]⟩, 2⟩], [], []⟩, ⟨⟨some ⟨p, 0, none⟩, 1, 1⟩, ⟨none, 0, 0⟩, ⟨none, 0, 0⟩⟩), (⟨⟨#[83, 117, 109]⟩, ⟨#[78, 117, 109]⟩, false, [], [⟨⟨#[97, 114, 103]⟩, ⟨#[78, 117, 109]⟩, 1, mx⟩], [⟨⟨#[116, 111]⟩, ⟨#[78, 117, 109]⟩, false⟩]⟩, ⟨⟨none, 0, 0⟩, ⟨some ⟨k, 0, none⟩, 1, 1⟩, ⟨some ⟨r, 0, none⟩, 1, 1⟩⟩)],
    ⟨none, 0, 0⟩, [], ⟨none, 0, 0⟩, [], ⟨none, 0, 0⟩, [], ⟨none, 0, 0⟩, []⟩
def emptyM : LangM := ⟨⟨#[97]⟩, 0, ⟨none, 0, 0⟩, [], ⟨none, 0, 0⟩, [], ⟨none, 0, 0⟩, [], ⟨none, 0, 0⟩, [], ⟨none, 0, 0⟩, [], ⟨none, 0, 0⟩, []⟩
structure SmallIn (w : World) (p k r c : Nat) (mx : Int) : Prop where
  hp : Blk w p 85 #[.string ⟨#[118]⟩, .int .i64 2]
  hk : Blk w k 62 #[.string ⟨#[97, 114, 103]⟩, .string ⟨#[78, 117, 109]⟩, .int .i64 1, .int .i64 mx]
  hr : Blk w r 87 #[.string ⟨#[116, 111]⟩, .string ⟨#[78, 117, 109]⟩, .bool false]
  hc : Blk w c 47 #[.string ⟨#[78, 117, 109]⟩, .string ⟨#[]⟩, .bool false, .slice (some ⟨p, 0, none⟩) 1 1, .slice none 0 0, .slice none 0 0, .string ⟨#[83, 117, 109]⟩, .string ⟨#[78, 117, 109]⟩, .bool false, .slice none 0 0, .slice (some ⟨k, 0, none⟩) 1 1, .slice (some ⟨r, 0, none⟩) 1 1]
theorem SmallIn.after {w w' : World} {p k r c : Nat} {mx : Int} (h : SmallIn w p k r c mx) (hb : Below w.heap.size w w') : SmallIn w' p k r c mx := ⟨h.hp.after hb, h.hk.after hb, h.hr.after hb, h.hc.after hb⟩
theorem row_of_blk {w : World} {g n size : Nat} {e : TypeId} {cs : Array Value} (h : Blk w g e cs) (hs : cs.size = n * size) (hn : n ≤ 2) : Row w 0 w.heap.size size (some ⟨g, 0, none⟩) n n cs.toList :=
  Row.mono (row_blk (n := n) (c := n) (size := size) h hs (Nat.le_refl _) (by unfold maxLen; omega)) (Nat.zero_le _) h.lt
theorem SmallIn.lang {w : World} {p k r c : Nat} {mx : Int} (h : SmallIn w p k r c mx) : LangIn w 0 w.heap.size (smallM p k r c mx) := by
  refine ⟨rfl, Row.nil _ _ _ _, ⟨rfl, row_of_blk h.hc rfl (show 2 ≤ 2 from Nat.le_refl _), fun g hg => ?_⟩, rfl, Row.nil _ _ _ _, ⟨rfl, Row.nil _ _ _ _, fun g hg => (by cases hg)⟩, ⟨rfl, Row.nil _ _ _ _, fun g hg => (by cases hg)⟩, ⟨rfl, Row.nil _ _ _ _, fun g hg => (by cases hg)⟩⟩
  rcases List.mem_cons.1 hg with rfl | hg
  · exact ⟨rfl, rfl, rfl, row_of_blk h.hp rfl (show 1 ≤ 2 from Nat.le_succ _), Row.nil _ _ _ _, Row.nil _ _ _ _⟩
  · obtain rfl := List.mem_singleton.1 hg
    exact ⟨rfl, rfl, rfl, Row.nil _ _ _ _, row_of_blk h.hk rfl (show 1 ≤ 2 from Nat.le_succ _), row_of_blk h.hr rfl (show 1 ≤ 2 from Nat.le_succ _)⟩
theorem small_fit (p k r c : Nat) (mx : Int) : Fit (smallM p k r c mx) := ⟨fun g hg => (by cases hg), fun g hg => (by cases hg), fun g hg => (by cases hg)⟩
theorem empty_in (w : World) : LangIn w 0 w.heap.size emptyM := ⟨rfl, Row.nil _ _ _ _, ⟨rfl, Row.nil _ _ _ _, fun g hg => (by cases hg)⟩, rfl, Row.nil _ _ _ _, ⟨rfl, Row.nil _ _ _ _, fun g hg => (by cases hg)⟩, ⟨rfl, Row.nil _ _ _ _, fun g hg => (by cases hg)⟩, ⟨rfl, Row.nil _ _ _ _, fun g hg => (by cases hg)⟩⟩
theorem empty_fit : Fit emptyM := ⟨fun g hg => (by cases hg), fun g hg => (by cases hg), fun g hg => (by cases hg)⟩
theorem small_ok (p k r c : Nat) : langF (smallM p k r c 0) = none := by kernel_rfl
theorem small_two (p k r c : Nat) : langF (smallM p k r c 2) = some ⟨2, 1, 1, 44⟩ := by kernel_rfl
theorem empty_bad : langF emptyM = some ⟨0, 1, 0, 2⟩ := by kernel_rfl
theorem small_same (p k r c p' k' r' c' : Nat) : langEM (smallM p k r c 0) (smallM p' k' r' c' 0) = true := by kernel_rfl
theorem small_unlike (p k r c p' k' r' c' : Nat) : langEM (smallM p k r c 0) (smallM p' k' r' c' 2) = false := by kernel_rfl
theorem small_names (p k r c : Nat) (mx : Int) : namesV ((smallM p k r c mx).cs.map fun g => g.1.name.data.toList) = [[78, 117, 109], [83, 117, 109]] := by kernel_rfl
set_option maxRecDepth 20000 in
set_option maxHeartbeats 1600000 in
theorem small_any (w : World) : Calls Tryz.prog 12 #[] w (fun e w' => ∃ p k r c, e = .returned (.agg #[.string ⟨#[97]⟩, .int .i64 1, .slice none 0 0, .slice (some ⟨c, 0, none⟩) 2 2, .slice none 0 0, .slice none 0 0, .slice none 0 0, .slice none 0 0]) ∧ SmallIn w' p k r c 0 ∧ w.heap.size ≤ k ∧ Below w.heap.size w w') := by
  go_enter Tryz.func12, Tryz.ntmps12
  go_wp2
  refine ⟨rfl, .agg #[.string ⟨#[97]⟩, .int .i64 1, .slice none 0 0, .slice (some ⟨w.heap.size + 1 + 1 + 1 + 1, 0, none⟩) 2 2, .slice none 0 0, .slice none 0 0, .slice none 0 0, .slice none 0 0], by simp [results, Tryz.results12, go_sem], w.heap.size + 1, w.heap.size + 1 + 1, w.heap.size + 1 + 1 + 1, w.heap.size + 1 + 1 + 1 + 1, rfl, ⟨?_, ?_, ?_, ?_⟩, by omega, ?_⟩
  · exact Blk.alloc (Blk.alloc (Blk.alloc (Blk.new' (by simp)) _) _) _
  · exact Blk.alloc (Blk.alloc (Blk.new' (by simp)) _) _
  · exact Blk.alloc (Blk.new' (by simp)) _
  · exact Blk.new' (by simp)
  · exact (by (repeat (first | exact Below.refl _ _ | refine below_more ?_ _ | refine below_drew ?_ | refine below_drewN ?_ _)))
theorem texts_two {Z : World} {B c : Nat} {A : Option Addr} (hv : Z.ownsRow B 9 1 (.slice A 2 c) 2 (encs [[78, 117, 109], [83, 117, 109]])) : Calls Tryz.prog 14 #[.slice A 2 c, .slice (some ⟨Z.heap.size, 0, none⟩) 2 2] (Z.alloc (.cells #[.string ⟨#[78, 117, 109]⟩, .string ⟨#[83, 117, 109]⟩] 9)) (Ret (Z.alloc (.cells #[.string ⟨#[78, 117, 109]⟩, .string ⟨#[83, 117, 109]⟩] 9)) (.bool true)) := by
  have r1 := Row.below (own_row hv) (below_of_alloc (.cells #[.string ⟨#[78, 117, 109]⟩, .string ⟨#[83, 117, 109]⟩] 9))
  rw [encs_strC] at r1
  have r2 : Row (Z.alloc (.cells #[.string ⟨#[78, 117, 109]⟩, .string ⟨#[83, 117, 109]⟩] 9)) 0 (Z.alloc (.cells #[.string ⟨#[78, 117, 109]⟩, .string ⟨#[83, 117, 109]⟩] 9)).heap.size 1 (some ⟨Z.heap.size, 0, none⟩) 2 2 (strCells [⟨#[78, 117, 109]⟩, ⟨#[83, 117, 109]⟩]) := row_of_blk (Blk.new _ _ _) rfl (Nat.le_refl _)
  have := refTexts_any _ _ _ _ _ _ _ _ _ _ _ _ _ r1 r2
  have he : eqL strE ([[78, 117, 109], [83, 117, 109]].map fun b : Bys => (⟨b.toArray⟩ : ByteArray)) [⟨#[78, 117, 109]⟩, ⟨#[83, 117, 109]⟩] = true := by kernel_rfl
  rw [he] at this
  exact drew_ret this
set_option maxRecDepth 40000 in
set_option maxHeartbeats 6400000 in
theorem awake_any (w : World) : Calls Tryz.prog 5 #[] w (Ret w (.bool true)) := by
  have HCd : Hid (∀ Y {p k r c : Nat}, SmallIn Y p k r c 0 → Calls Tryz.prog 7 #[.agg #[.string ⟨#[97]⟩, .int .i64 1, .slice none 0 0, .slice (some ⟨c, 0, none⟩) 2 2, .slice none 0 0, .slice none 0 0, .slice none 0 0, .slice none 0 0]] Y (fun e w' => e = .returned (.agg #[.int .i64 0, .int .i64 0, .int .i64 0, .int .i64 0]) ∧ Below Y.heap.size Y w')) := Lib.hid fun Y p k r c h => by
    have := check_any Y Y.heap.size _ h.lang (Nat.le_refl _) (small_fit p k r c 0)
    rw [small_ok] at this
    exact this
  have HCe : Hid (∀ Y {p k r c : Nat}, SmallIn Y p k r c 2 → Calls Tryz.prog 7 #[.agg #[.string ⟨#[97]⟩, .int .i64 1, .slice none 0 0, .slice (some ⟨c, 0, none⟩) 2 2, .slice none 0 0, .slice none 0 0, .slice none 0 0, .slice none 0 0]] Y (fun e w' => e = .returned (.agg #[.int .i64 2, .int .i64 1, .int .i64 1, .int .i64 44]) ∧ Below Y.heap.size Y w')) := Lib.hid fun Y p k r c h => by
    have := check_any Y Y.heap.size _ h.lang (Nat.le_refl _) (small_fit p k r c 2)
    rw [small_two] at this
    exact this
  have HCz : Hid (∀ Y, Calls Tryz.prog 7 #[.agg #[.string ⟨#[97]⟩, .int .i64 0, .slice none 0 0, .slice none 0 0, .slice none 0 0, .slice none 0 0, .slice none 0 0, .slice none 0 0]] Y (fun e w' => e = .returned (.agg #[.int .i64 0, .int .i64 1, .int .i64 0, .int .i64 2]) ∧ Below Y.heap.size Y w')) := Lib.hid fun Y => by
    have := check_any Y Y.heap.size _ (empty_in Y) (Nat.le_refl _) empty_fit
    rw [empty_bad] at this
    exact this
  have HSd : Hid (∀ Y {p k r c : Nat}, SmallIn Y p k r c 0 → Calls Tryz.prog 13 #[.agg #[.string ⟨#[97]⟩, .int .i64 1, .slice none 0 0, .slice (some ⟨c, 0, none⟩) 2 2, .slice none 0 0, .slice none 0 0, .slice none 0 0, .slice none 0 0], .agg #[.string ⟨#[97]⟩, .int .i64 1, .slice none 0 0, .slice (some ⟨c, 0, none⟩) 2 2, .slice none 0 0, .slice none 0 0, .slice none 0 0, .slice none 0 0]] Y (fun e w' => e = .returned (.bool true) ∧ Below Y.heap.size Y w')) := Lib.hid fun Y p k r c h => by
    have := same_lang_any Y Y.heap.size _ _ h.lang h.lang (Nat.le_refl _)
    rw [small_same] at this
    exact this
  have HSe : Hid (∀ Y {p k r c p' k' r' c' : Nat}, SmallIn Y p k r c 0 → SmallIn Y p' k' r' c' 2 → Calls Tryz.prog 13 #[.agg #[.string ⟨#[97]⟩, .int .i64 1, .slice none 0 0, .slice (some ⟨c, 0, none⟩) 2 2, .slice none 0 0, .slice none 0 0, .slice none 0 0, .slice none 0 0], .agg #[.string ⟨#[97]⟩, .int .i64 1, .slice none 0 0, .slice (some ⟨c', 0, none⟩) 2 2, .slice none 0 0, .slice none 0 0, .slice none 0 0, .slice none 0 0]] Y (fun e w' => e = .returned (.bool false) ∧ Below Y.heap.size Y w')) := Lib.hid fun Y p k r c p' k' r' c' h h' => by
    have := same_lang_any Y Y.heap.size _ _ h.lang h'.lang (Nat.le_refl _)
    rw [small_unlike] at this
    exact this
  have HNd : Hid (∀ Y {p k r c : Nat}, SmallIn Y p k r c 0 → Calls Tryz.prog 15 #[.agg #[.string ⟨#[97]⟩, .int .i64 1, .slice none 0 0, .slice (some ⟨c, 0, none⟩) 2 2, .slice none 0 0, .slice none 0 0, .slice none 0 0, .slice none 0 0]] Y (fun e w' => ∃ v, e = .returned v ∧ OwnS w' Y.heap.size v [[78, 117, 109], [83, 117, 109]] ∧ Below Y.heap.size Y w')) := Lib.hid fun Y p k r c h => by
    have := names_any Y Y.heap.size _ h.lang (Nat.le_refl _) (show 2 ≤ 1048576 by omega)
    rw [small_names] at this
    exact this
  go_enter Tryz.func5, Tryz.ntmps5
  go_upto_region 2 with (go_at_call 12; (with_reducible refine (small_any _).mono ?_); go_must (rintro e1 Y1 ⟨p1, k1, r1, c1, rfl, hs1, hk1, hb1⟩; have HS1 := Lib.hid hs1; have HB1 := Lib.hid hb1; clear hs1 hb1 hk1))
  go_upto_region 4 with (go_at_call 12; (with_reducible refine (small_any _).mono ?_); go_must (rintro e2 Y2 ⟨p2, k2, r2, c2, rfl, hs2, hk2, hb2⟩; have HS2 := Lib.hid hs2; have HK2 := Lib.hid hk2; have HB2 := Lib.hid hb2; have f10 : ∀ o, (Y2.alloc o).cell? ⟨c2, 10, none⟩ = some (.slice (some ⟨k2, 0, none⟩) 1 1) := (fun o => ((hs2.hc.alloc o).cell 10).trans rfl); have f3 : ∀ o, (Y2.alloc o).cell? ⟨k2, 3, none⟩ = some (.int .i64 0) := (fun o => ((hs2.hk.alloc o).cell 3).trans rfl); have z3 : ∀ o, (Y2.alloc o).frozen? ⟨k2, 3, none⟩ = false := (fun o => (hs2.hk.alloc o).frozen 3); clear hs2 hk2 hb2))
  have hlt := HS1.out.hk.lt
  have HS4a : Hid (SmallIn ((Y2.alloc (.cells #[.string ⟨#[97]⟩, .int .i64 1, .slice none 0 0, .slice (some ⟨c2, 0, none⟩) 2 2, .slice none 0 0, .slice none 0 0, .slice none 0 0, .slice none 0 0] 29)).setCell ⟨k2, 3, none⟩ (.int .i64 2)) p1 k1 r1 c1 0) := Lib.hid (by
    have hz : (Y1.alloc (.cells #[.string ⟨#[97]⟩, .int .i64 1, .slice none 0 0, .slice (some ⟨c1, 0, none⟩) 2 2, .slice none 0 0, .slice none 0 0, .slice none 0 0, .slice none 0 0] 29)).heap.size = Y1.heap.size + 1 := by simp
    have hK := HK2.out
    rw [hz] at hK
    have h := HS1.out
    have far : ∀ {g : Nat} {t : TypeId} {cs : Array Value}, Blk Y1 g t cs → Blk ((Y2.alloc (.cells #[.string ⟨#[97]⟩, .int .i64 1, .slice none 0 0, .slice (some ⟨c2, 0, none⟩) 2 2, .slice none 0 0, .slice none 0 0, .slice none 0 0, .slice none 0 0] 29)).setCell ⟨k2, 3, none⟩ (.int .i64 2)) g t cs := fun hb => (Blk.alloc ((hb.alloc _).after HB2.out) _).far (p := ⟨k2, 3, none⟩) (by have := hb.lt; show _ ≠ k2; omega) _
    exact ⟨far h.hp, far h.hk, far h.hr, far h.hc⟩)
  have HS4b : Hid (SmallIn ((Y2.alloc (.cells #[.string ⟨#[97]⟩, .int .i64 1, .slice none 0 0, .slice (some ⟨c2, 0, none⟩) 2 2, .slice none 0 0, .slice none 0 0, .slice none 0 0, .slice none 0 0] 29)).setCell ⟨k2, 3, none⟩ (.int .i64 2)) p2 k2 r2 c2 2) := Lib.hid (by
    have h := HS2.out
    refine ⟨(h.hp.alloc _).far (p := ⟨k2, 3, none⟩) (h.hp.ne_ h.hk (by decide)) _, ?_, (h.hr.alloc _).far (p := ⟨k2, 3, none⟩) (h.hr.ne_ h.hk (by decide)) _, (h.hc.alloc _).far (p := ⟨k2, 3, none⟩) (h.hc.ne_ h.hk (by decide)) _⟩
    have := (h.hk.alloc (.cells #[.string ⟨#[97]⟩, .int .i64 1, .slice none 0 0, .slice (some ⟨c2, 0, none⟩) 2 2, .slice none 0 0, .slice none 0 0, .slice none 0 0, .slice none 0 0] 29)).set_ 3 (.int .i64 2)
    simpa using this)
  have HX4 : Hid (Blk ((Y2.alloc (.cells #[.string ⟨#[97]⟩, .int .i64 1, .slice none 0 0, .slice (some ⟨c2, 0, none⟩) 2 2, .slice none 0 0, .slice none 0 0, .slice none 0 0, .slice none 0 0] 29)).setCell ⟨k2, 3, none⟩ (.int .i64 2)) Y1.heap.size 29 #[.string ⟨#[97]⟩, .int .i64 1, .slice none 0 0, .slice (some ⟨c1, 0, none⟩) 2 2, .slice none 0 0, .slice none 0 0, .slice none 0 0, .slice none 0 0]) := Lib.hid (by
    have hz : (Y1.alloc (.cells #[.string ⟨#[97]⟩, .int .i64 1, .slice none 0 0, .slice (some ⟨c1, 0, none⟩) 2 2, .slice none 0 0, .slice none 0 0, .slice none 0 0, .slice none 0 0] 29)).heap.size = Y1.heap.size + 1 := by simp
    have hK := HK2.out
    rw [hz] at hK
    exact (Blk.alloc (Blk.after (Blk.new Y1 _ _) HB2.out) _).far (p := ⟨k2, 3, none⟩) (by show _ ≠ k2; omega) _)
  have HY4 : Hid (Blk ((Y2.alloc (.cells #[.string ⟨#[97]⟩, .int .i64 1, .slice none 0 0, .slice (some ⟨c2, 0, none⟩) 2 2, .slice none 0 0, .slice none 0 0, .slice none 0 0, .slice none 0 0] 29)).setCell ⟨k2, 3, none⟩ (.int .i64 2)) Y2.heap.size 29 #[.string ⟨#[97]⟩, .int .i64 1, .slice none 0 0, .slice (some ⟨c2, 0, none⟩) 2 2, .slice none 0 0, .slice none 0 0, .slice none 0 0, .slice none 0 0]) := Lib.hid ((Blk.new Y2 _ _).far (p := ⟨k2, 3, none⟩) (by have := HS2.out.hk.lt; show _ ≠ k2; omega) _)
  have HBB4 : Hid (Below w.heap.size w ((Y2.alloc (.cells #[.string ⟨#[97]⟩, .int .i64 1, .slice none 0 0, .slice (some ⟨c2, 0, none⟩) 2 2, .slice none 0 0, .slice none 0 0, .slice none 0 0, .slice none 0 0] 29)).setCell ⟨k2, 3, none⟩ (.int .i64 2))) := Lib.hid (by
    have hz : (Y1.alloc (.cells #[.string ⟨#[97]⟩, .int .i64 1, .slice none 0 0, .slice (some ⟨c1, 0, none⟩) 2 2, .slice none 0 0, .slice none 0 0, .slice none 0 0, .slice none 0 0] 29)).heap.size = Y1.heap.size + 1 := by simp
    have hK := HK2.out
    rw [hz] at hK
    have h1 : Below w.heap.size w (Y1.alloc (.cells #[.string ⟨#[97]⟩, .int .i64 1, .slice none 0 0, .slice (some ⟨c1, 0, none⟩) 2 2, .slice none 0 0, .slice none 0 0, .slice none 0 0, .slice none 0 0] 29)) := below_more HB1.out _
    exact below_set (below_more (h1.trans (HB2.out.mono h1.size)) _) (by have := HB1.out.size; omega))
  have a0 := (HX4.out.cell 0).trans (show _ = some (.string ⟨#[97]⟩) from rfl)
  have a1 := (HX4.out.cell 1).trans (show _ = some (.int .i64 1) from rfl)
  have a2 := (HX4.out.cell 2).trans (show _ = some (.slice none 0 0) from rfl)
  have a3 := (HX4.out.cell 3).trans (show _ = some (.slice (some ⟨c1, 0, none⟩) 2 2) from rfl)
  have a4 := (HX4.out.cell 4).trans (show _ = some (.slice none 0 0) from rfl)
  have a5 := (HX4.out.cell 5).trans (show _ = some (.slice none 0 0) from rfl)
  have a6 := (HX4.out.cell 6).trans (show _ = some (.slice none 0 0) from rfl)
  have a7 := (HX4.out.cell 7).trans (show _ = some (.slice none 0 0) from rfl)
  have d0 := (HY4.out.cell 0).trans (show _ = some (.string ⟨#[97]⟩) from rfl)
  have d1 := (HY4.out.cell 1).trans (show _ = some (.int .i64 1) from rfl)
  have d2 := (HY4.out.cell 2).trans (show _ = some (.slice none 0 0) from rfl)
  have d3 := (HY4.out.cell 3).trans (show _ = some (.slice (some ⟨c2, 0, none⟩) 2 2) from rfl)
  have d4 := (HY4.out.cell 4).trans (show _ = some (.slice none 0 0) from rfl)
  have d5 := (HY4.out.cell 5).trans (show _ = some (.slice none 0 0) from rfl)
  have d6 := (HY4.out.cell 6).trans (show _ = some (.slice none 0 0) from rfl)
  have d7 := (HY4.out.cell 7).trans (show _ = some (.slice none 0 0) from rfl)
  clear f10 f3 z3 hlt
  go_wp2_with (first | (go_at_call 7; (with_reducible refine (HCd.out _ HS4a.out).mono ?_); go_must (rintro e5 Z5 ⟨rfl, hb4⟩; have HS5a := Lib.hid (HS4a.out.after hb4); have HS5b := Lib.hid (HS4b.out.after hb4); have hx4 := HX4.out.after hb4; have hy4 := HY4.out.after hb4; have HX5 := Lib.hid hx4; have HY5 := Lib.hid hy4; have HBB5 := Lib.hid (HBB4.out.trans (hb4.mono HBB4.out.size)); have a4_0 := (hx4.cell 0).trans (show _ = some (.string ⟨#[97]⟩) from rfl); have a4_1 := (hx4.cell 1).trans (show _ = some (.int .i64 1) from rfl); have a4_2 := (hx4.cell 2).trans (show _ = some (.slice none 0 0) from rfl); have a4_3 := (hx4.cell 3).trans (show _ = some (.slice (some ⟨c1, 0, none⟩) 2 2) from rfl); have a4_4 := (hx4.cell 4).trans (show _ = some (.slice none 0 0) from rfl); have a4_5 := (hx4.cell 5).trans (show _ = some (.slice none 0 0) from rfl); have a4_6 := (hx4.cell 6).trans (show _ = some (.slice none 0 0) from rfl); have a4_7 := (hx4.cell 7).trans (show _ = some (.slice none 0 0) from rfl); have d4_0 := (hy4.cell 0).trans (show _ = some (.string ⟨#[97]⟩) from rfl); have d4_1 := (hy4.cell 1).trans (show _ = some (.int .i64 1) from rfl); have d4_2 := (hy4.cell 2).trans (show _ = some (.slice none 0 0) from rfl); have d4_3 := (hy4.cell 3).trans (show _ = some (.slice (some ⟨c2, 0, none⟩) 2 2) from rfl); have d4_4 := (hy4.cell 4).trans (show _ = some (.slice none 0 0) from rfl); have d4_5 := (hy4.cell 5).trans (show _ = some (.slice none 0 0) from rfl); have d4_6 := (hy4.cell 6).trans (show _ = some (.slice none 0 0) from rfl); have d4_7 := (hy4.cell 7).trans (show _ = some (.slice none 0 0) from rfl); clear hx4 hy4 hb4)) | (go_at_call 7; (with_reducible refine (HCe.out _ HS5b.out).mono ?_); go_must (rintro e6 Z6 ⟨rfl, hb5⟩; have HS6a := Lib.hid (HS5a.out.after hb5); have HS6b := Lib.hid (HS5b.out.after hb5); have hx5 := HX5.out.after hb5; have hy5 := HY5.out.after hb5; have HX6 := Lib.hid hx5; have HY6 := Lib.hid hy5; have HBB6 := Lib.hid (HBB5.out.trans (hb5.mono HBB5.out.size)); have a5_0 := (hx5.cell 0).trans (show _ = some (.string ⟨#[97]⟩) from rfl); have a5_1 := (hx5.cell 1).trans (show _ = some (.int .i64 1) from rfl); have a5_2 := (hx5.cell 2).trans (show _ = some (.slice none 0 0) from rfl); have a5_3 := (hx5.cell 3).trans (show _ = some (.slice (some ⟨c1, 0, none⟩) 2 2) from rfl); have a5_4 := (hx5.cell 4).trans (show _ = some (.slice none 0 0) from rfl); have a5_5 := (hx5.cell 5).trans (show _ = some (.slice none 0 0) from rfl); have a5_6 := (hx5.cell 6).trans (show _ = some (.slice none 0 0) from rfl); have a5_7 := (hx5.cell 7).trans (show _ = some (.slice none 0 0) from rfl); have d5_0 := (hy5.cell 0).trans (show _ = some (.string ⟨#[97]⟩) from rfl); have d5_1 := (hy5.cell 1).trans (show _ = some (.int .i64 1) from rfl); have d5_2 := (hy5.cell 2).trans (show _ = some (.slice none 0 0) from rfl); have d5_3 := (hy5.cell 3).trans (show _ = some (.slice (some ⟨c2, 0, none⟩) 2 2) from rfl); have d5_4 := (hy5.cell 4).trans (show _ = some (.slice none 0 0) from rfl); have d5_5 := (hy5.cell 5).trans (show _ = some (.slice none 0 0) from rfl); have d5_6 := (hy5.cell 6).trans (show _ = some (.slice none 0 0) from rfl); have d5_7 := (hy5.cell 7).trans (show _ = some (.slice none 0 0) from rfl); clear hx5 hy5 hb5)) | (go_at_call 7; (with_reducible refine (HCz.out _).mono ?_); go_must (rintro e7 Z7 ⟨rfl, hb6⟩; have HS7a := Lib.hid (HS6a.out.after hb6); have HS7b := Lib.hid (HS6b.out.after hb6); have hx6 := HX6.out.after hb6; have hy6 := HY6.out.after hb6; have HX7 := Lib.hid hx6; have HY7 := Lib.hid hy6; have HBB7 := Lib.hid (HBB6.out.trans (hb6.mono HBB6.out.size)); have a6_0 := (hx6.cell 0).trans (show _ = some (.string ⟨#[97]⟩) from rfl); have a6_1 := (hx6.cell 1).trans (show _ = some (.int .i64 1) from rfl); have a6_2 := (hx6.cell 2).trans (show _ = some (.slice none 0 0) from rfl); have a6_3 := (hx6.cell 3).trans (show _ = some (.slice (some ⟨c1, 0, none⟩) 2 2) from rfl); have a6_4 := (hx6.cell 4).trans (show _ = some (.slice none 0 0) from rfl); have a6_5 := (hx6.cell 5).trans (show _ = some (.slice none 0 0) from rfl); have a6_6 := (hx6.cell 6).trans (show _ = some (.slice none 0 0) from rfl); have a6_7 := (hx6.cell 7).trans (show _ = some (.slice none 0 0) from rfl); have d6_0 := (hy6.cell 0).trans (show _ = some (.string ⟨#[97]⟩) from rfl); have d6_1 := (hy6.cell 1).trans (show _ = some (.int .i64 1) from rfl); have d6_2 := (hy6.cell 2).trans (show _ = some (.slice none 0 0) from rfl); have d6_3 := (hy6.cell 3).trans (show _ = some (.slice (some ⟨c2, 0, none⟩) 2 2) from rfl); have d6_4 := (hy6.cell 4).trans (show _ = some (.slice none 0 0) from rfl); have d6_5 := (hy6.cell 5).trans (show _ = some (.slice none 0 0) from rfl); have d6_6 := (hy6.cell 6).trans (show _ = some (.slice none 0 0) from rfl); have d6_7 := (hy6.cell 7).trans (show _ = some (.slice none 0 0) from rfl); clear hx6 hy6 hb6)) | (go_at_call 13; (with_reducible refine (HSd.out _ HS7a.out).mono ?_); go_must (rintro e8 Z8 ⟨rfl, hb7⟩; have HS8a := Lib.hid (HS7a.out.after hb7); have HS8b := Lib.hid (HS7b.out.after hb7); have hx7 := HX7.out.after hb7; have hy7 := HY7.out.after hb7; have HX8 := Lib.hid hx7; have HY8 := Lib.hid hy7; have HBB8 := Lib.hid (HBB7.out.trans (hb7.mono HBB7.out.size)); have a7_0 := (hx7.cell 0).trans (show _ = some (.string ⟨#[97]⟩) from rfl); have a7_1 := (hx7.cell 1).trans (show _ = some (.int .i64 1) from rfl); have a7_2 := (hx7.cell 2).trans (show _ = some (.slice none 0 0) from rfl); have a7_3 := (hx7.cell 3).trans (show _ = some (.slice (some ⟨c1, 0, none⟩) 2 2) from rfl); have a7_4 := (hx7.cell 4).trans (show _ = some (.slice none 0 0) from rfl); have a7_5 := (hx7.cell 5).trans (show _ = some (.slice none 0 0) from rfl); have a7_6 := (hx7.cell 6).trans (show _ = some (.slice none 0 0) from rfl); have a7_7 := (hx7.cell 7).trans (show _ = some (.slice none 0 0) from rfl); have d7_0 := (hy7.cell 0).trans (show _ = some (.string ⟨#[97]⟩) from rfl); have d7_1 := (hy7.cell 1).trans (show _ = some (.int .i64 1) from rfl); have d7_2 := (hy7.cell 2).trans (show _ = some (.slice none 0 0) from rfl); have d7_3 := (hy7.cell 3).trans (show _ = some (.slice (some ⟨c2, 0, none⟩) 2 2) from rfl); have d7_4 := (hy7.cell 4).trans (show _ = some (.slice none 0 0) from rfl); have d7_5 := (hy7.cell 5).trans (show _ = some (.slice none 0 0) from rfl); have d7_6 := (hy7.cell 6).trans (show _ = some (.slice none 0 0) from rfl); have d7_7 := (hy7.cell 7).trans (show _ = some (.slice none 0 0) from rfl); clear hx7 hy7 hb7)) | (go_at_call 13; (with_reducible refine (HSe.out _ HS8a.out HS8b.out).mono ?_); go_must (rintro e9 Z9 ⟨rfl, hb8⟩; have HS9a := Lib.hid (HS8a.out.after hb8); have HS9b := Lib.hid (HS8b.out.after hb8); have hx8 := HX8.out.after hb8; have hy8 := HY8.out.after hb8; have HX9 := Lib.hid hx8; have HY9 := Lib.hid hy8; have HBB9 := Lib.hid (HBB8.out.trans (hb8.mono HBB8.out.size)); have a8_0 := (hx8.cell 0).trans (show _ = some (.string ⟨#[97]⟩) from rfl); have a8_1 := (hx8.cell 1).trans (show _ = some (.int .i64 1) from rfl); have a8_2 := (hx8.cell 2).trans (show _ = some (.slice none 0 0) from rfl); have a8_3 := (hx8.cell 3).trans (show _ = some (.slice (some ⟨c1, 0, none⟩) 2 2) from rfl); have a8_4 := (hx8.cell 4).trans (show _ = some (.slice none 0 0) from rfl); have a8_5 := (hx8.cell 5).trans (show _ = some (.slice none 0 0) from rfl); have a8_6 := (hx8.cell 6).trans (show _ = some (.slice none 0 0) from rfl); have a8_7 := (hx8.cell 7).trans (show _ = some (.slice none 0 0) from rfl); have d8_0 := (hy8.cell 0).trans (show _ = some (.string ⟨#[97]⟩) from rfl); have d8_1 := (hy8.cell 1).trans (show _ = some (.int .i64 1) from rfl); have d8_2 := (hy8.cell 2).trans (show _ = some (.slice none 0 0) from rfl); have d8_3 := (hy8.cell 3).trans (show _ = some (.slice (some ⟨c2, 0, none⟩) 2 2) from rfl); have d8_4 := (hy8.cell 4).trans (show _ = some (.slice none 0 0) from rfl); have d8_5 := (hy8.cell 5).trans (show _ = some (.slice none 0 0) from rfl); have d8_6 := (hy8.cell 6).trans (show _ = some (.slice none 0 0) from rfl); have d8_7 := (hy8.cell 7).trans (show _ = some (.slice none 0 0) from rfl); clear hx8 hy8 hb8)) | (go_at_call 15; (with_reducible refine (HNd.out _ HS9a.out).mono ?_); go_must (rintro e10 Z10 ⟨v, rfl, hv, hb9⟩; have hv2 := OwnS.num hv (n := 2) rfl; obtain ⟨Av, cv, rfl⟩ := own_form hv2; have HT : Hid (Calls Tryz.prog 14 #[.slice Av 2 cv, .slice (some ⟨Z10.heap.size, 0, none⟩) 2 2] (Z10.alloc (.cells #[.string ⟨#[78, 117, 109]⟩, .string ⟨#[83, 117, 109]⟩] 9)) (Ret (Z10.alloc (.cells #[.string ⟨#[78, 117, 109]⟩, .string ⟨#[83, 117, 109]⟩] 9)) (.bool true))) := Lib.hid (texts_two hv2); have HBBa := Lib.hid (HBB9.out.trans (hb9.mono HBB9.out.size)); clear hv hv2 hb9)) | (go_at_call 14; (with_reducible refine HT.out.mono ?_); go_must (rintro e11 Z11 ⟨rfl, hb10⟩; have HBBb : Hid (Below w.heap.size w Z11) := Lib.hid (Below.trans (below_more HBBa.out _) (hb10.mono (below_more HBBa.out _).size)); clear hb10)))
  go_ret
  exact ⟨rfl, HBBb.out⟩
end Go.Proofs.YtilemieknfdjnaaGreat
namespace Go.Proofs.YtilemieknfdjnaaGreat
open Go Go.RowKit Go.Sort
set_option linter.unusedVariables false
theorem ba_eq {x y : ByteArray} (h : (x.toList == y.toList) = true) : x = y := by
  rw [beq_iff_eq, Lib.toList_data, Lib.toList_data] at h
  have := Array.toList_inj.1 h
  cases x; cases y; simp at this; rw [this]
theorem pd_eq {x y : PropD} (h : pdE x y = true) : x = y := by
  simp only [pdE, Bool.and_eq_true] at h
  have h1 := ba_eq h.1
  have h2 := beq_iff_eq.1 h.2
  cases x; cases y; simp only at h1 h2; rw [h1, h2]
theorem kd_eq {x y : KidD} (h : kdE x y = true) : x = y := by
  simp only [kdE, Bool.and_eq_true] at h
  have h1 := ba_eq h.1.1.1
  have h2 := ba_eq h.1.1.2
  have h3 := beq_iff_eq.1 h.1.2
  have h4 := beq_iff_eq.1 h.2
  cases x; cases y; simp only at h1 h2 h3 h4; rw [h1, h2, h3, h4]
theorem rd_eq {x y : RefD} (h : rdE x y = true) : x = y := by
  simp only [rdE, Bool.and_eq_true] at h
  have h1 := ba_eq h.1.1
  have h2 := ba_eq h.1.2
  have h3 := beq_iff_eq.1 h.2
  cases x; cases y; simp only at h1 h2 h3; rw [h1, h2, h3]
theorem ru_eq {x y : RuleD} (h : ruE x y = true) : x = y := by
  simp only [ruE, Bool.and_eq_true] at h
  have h1 := ba_eq h.1.1.1
  have h2 := ba_eq h.1.1.2
  have h3 := beq_iff_eq.1 h.1.2
  have h4 := ba_eq h.2
  cases x; cases y; simp only at h1 h2 h3 h4; rw [h1, h2, h3, h4]
theorem ce_eq {x y : CellD} (h : ceE x y = true) : x = y := by
  simp only [ceE, Bool.and_eq_true] at h
  have h1 := beq_iff_eq.1 h.1.1
  have h2 := ba_eq h.1.2
  have h3 := ba_eq h.2
  cases x; cases y; simp only at h1 h2 h3; rw [h1, h2, h3]
theorem eqL_map {α β : Type} {e : α → α → Bool} {f : α → β} (hf : ∀ x y, e x y = true → f x = f y) : ∀ {l m : List α}, eqL e l m = true → l.map f = m.map f
  | [], [], _ => rfl
  | [], _ :: _, h => by simp [eqL] at h
  | _ :: _, [], h => by simp [eqL] at h
  | x :: l, y :: m, h => by
    rw [eqL, Bool.and_eq_true] at h
    rw [List.map_cons, List.map_cons, hf x y h.1, eqL_map hf h.2]
theorem eqL_eqq {α : Type} {e : α → α → Bool} (hf : ∀ x y, e x y = true → x = y) {l m : List α} (h : eqL e l m = true) : l = m := by
  have := eqL_map (f := id) hf h
  simpa using this
theorem con_eq {x y : ConD × Leaf} (h : conEM x y = true) : x.1 = y.1 := by
  simp only [conEM, Bool.and_eq_true] at h
  obtain ⟨⟨⟨⟨⟨h1, h2⟩, h3⟩, h4⟩, h5⟩, h6⟩ := h
  replace h1 := ba_eq h1
  replace h2 := ba_eq h2
  replace h3 := beq_iff_eq.1 h3
  replace h4 := eqL_eqq (fun _ _ => pd_eq) h4
  replace h5 := eqL_eqq (fun _ _ => kd_eq) h5
  replace h6 := eqL_eqq (fun _ _ => rd_eq) h6
  obtain ⟨⟨a1, a2, a3, a4, a5, a6⟩, _⟩ := x
  obtain ⟨⟨b1, b2, b3, b4, b5, b6⟩, _⟩ := y
  simp only at h1 h2 h3 h4 h5 h6 ⊢
  rw [h1, h2, h3, h4, h5, h6]
theorem side_eq {x y : SideD × Sl} (h : sideEM x y = true) : x.1 = y.1 := by
  simp only [sideEM, Bool.and_eq_true] at h
  obtain ⟨⟨⟨h1, h2⟩, h3⟩, h4⟩ := h
  replace h1 := beq_iff_eq.1 h1
  replace h2 := ba_eq h2
  replace h3 := beq_iff_eq.1 h3
  replace h4 := eqL_eqq (fun a b (h : intE a b = true) => beq_iff_eq.1 h) h4
  obtain ⟨⟨a1, a2, a3, a4⟩, _⟩ := x
  obtain ⟨⟨b1, b2, b3, b4⟩, _⟩ := y
  simp only at h1 h2 h3 h4 ⊢
  rw [h1, h2, h3, h4]
theorem rowE_eq {x y : RowD × Sl} (h : rowEM x y = true) : x.1 = y.1 := by
  simp only [rowEM, Bool.and_eq_true] at h
  have h1 := ba_eq h.1
  have h2 := eqL_eqq (fun _ _ => ce_eq) h.2
  obtain ⟨⟨a1, a2⟩, _⟩ := x
  obtain ⟨⟨b1, b2⟩, _⟩ := y
  simp only at h1 h2 ⊢
  rw [h1, h2]
structure EqK where
  con : ByteArray
  ls : List SideD
  rs : List SideD
structure Cont where
  name : ByteArray
  ver : Int
  us : List ByteArray
  cs : List ConD
  ru : List RuleD
  qs : List EqK
  es : List RowD
  ts : List RowD
def eqK' (q : EqM) : EqK := ⟨q.con, q.ls.map (·.1), q.rs.map (·.1)⟩
def cont (x : LangM) : Cont := ⟨x.name, x.ver, x.us, x.cs.map (·.1), x.ru, x.qs.map eqK', x.es.map (·.1), x.ts.map (·.1)⟩
theorem cont_same {x y : LangM} (h : langEM x y = true) : cont x = cont y := by
  simp only [langEM, Bool.and_eq_true] at h
  obtain ⟨⟨⟨⟨⟨⟨⟨h1, h2⟩, h3⟩, h4⟩, h5⟩, h6⟩, h7⟩, h8⟩ := h
  unfold cont
  rw [ba_eq h1, beq_iff_eq.1 h2, eqL_eqq (fun a b (h : strE a b = true) => ba_eq h) h3, eqL_map (f := fun c : ConD × Leaf => c.1) (fun _ _ => con_eq) h4, eqL_eqq (fun _ _ => ru_eq) h5, eqL_map (f := eqK') (fun a b (h : eqEM a b = true) => by
    simp only [eqEM, Bool.and_eq_true] at h
    unfold eqK'
    rw [ba_eq h.1.1, eqL_map (f := fun c : SideD × Sl => c.1) (fun _ _ => side_eq) h.1.2, eqL_map (f := fun c : SideD × Sl => c.1) (fun _ _ => side_eq) h.2]) h6, eqL_map (f := fun c : RowD × Sl => c.1) (fun _ _ => rowE_eq) h7, eqL_map (f := fun c : RowD × Sl => c.1) (fun _ _ => rowE_eq) h8]
def conG (l : List ConD) (i : Nat) (c : ConD) : Out :=
  let e := namedV [c.name] ((l.take i).any fun y => bEq y.name c.name)
  if e = 0 then
    if !(bEq c.super ⟨#[]⟩) && !(nmB c.super) then .ret 2
    else if bEq c.super c.name then .ret 43
    else outOf (partsF c i)
  else .ret e
def sideG (l : List SideD) : Int := if 64 < l.length then 4 else if (l.any fun s => !(soundB s)) || !(treeP (l.map fun s => s.args) 0 [0]) then 2 else 0
def eqG (i : Nat) (q : EqK) : Out := if nmB q.con then outOf (eachV 2 (partF 4 i 0) (fun _ s => .ret (sideG s)) 0 [q.ls, q.rs]) else .ret 2
def rowG (lst kinds : Int) (l : List RowD) (i : Nat) (x : RowD) : Out :=
  let e := namedV [x.con] ((l.take i).any fun y => bEq y.con x.con)
  if e = 0 then outOf (rowF lst kinds i x.cells) else .ret e
def ownW (nm : ByteArray) (ver : Int) : Option Fa := if nmB nm then (if ver < 1 then some ⟨0, 1, 0, 2⟩ else none) else some ⟨0, 0, 0, 2⟩
def langG (k : Cont) : Option Fa := firstF [ownW k.name k.ver, eachV 8 (elemF 1) (useO k.name k.us) 0 k.us, eachV 128 (elemF 2) (conG k.cs) 0 k.cs, eachV 256 (elemF 3) (ruleO k.ru) 0 k.ru, eachV 256 (elemF 4) eqG 0 k.qs, eachV 256 (elemF 5) (rowG 5 6 k.es) 0 k.es, eachV 256 (elemF 6) (rowG 6 5 k.ts) 0 k.ts]
theorem eachV_by {α β : Type} (f : α → β) {most : Nat} {pl : Nat → Fa} {one : Nat → α → Out} {one' : Nat → β → Out} (ho : ∀ i x, one i x = one' i (f x)) : ∀ (l : List α) (i : Nat), eachV most pl one i l = eachV most pl one' i (l.map f)
  | [], i => rfl
  | x :: r, i => by rw [List.map_cons, eachV, eachV, ho, eachV_by f ho r (i + 1)]
theorem conG_eq (l : List (ConD × Leaf)) (i : Nat) (c : ConD × Leaf) : conO' l i c = conG (l.map (·.1)) i c.1 := by
  unfold conO' conG
  rw [← List.map_take, List.any_map]; rfl
theorem rowG_eq (lst kinds : Int) (l : List (RowD × Sl)) (i : Nat) (c : RowD × Sl) : rowO lst kinds l i c = rowG lst kinds (l.map (·.1)) i c.1 := by
  unfold rowO rowG
  rw [← List.map_take, List.any_map]; rfl
theorem sideG_eq (l : List (SideD × Sl)) : sideErr l = sideG (l.map (·.1)) := by
  unfold sideErr sideG
  rw [List.length_map, List.any_map, List.map_map]; rfl
theorem eqG_eq (i : Nat) (q : EqM) : eqO i q = eqG i (eqK' q) := by
  unfold eqO eqG eqK'
  rw [eachV_by (fun l : List (SideD × Sl) => l.map (·.1)) (one' := fun _ s => .ret (sideG s)) (fun _ l => by rw [sideG_eq])]
  rfl
theorem langG_eq (x : LangM) : langF x = langG (cont x) := by
  unfold langF langG cont
  rw [eachV_by (fun c : ConD × Leaf => c.1) (conG_eq x.cs), eachV_by eqK' eqG_eq, eachV_by (fun c : RowD × Sl => c.1) (rowG_eq 5 6 x.es), eachV_by (fun c : RowD × Sl => c.1) (rowG_eq 6 5 x.ts)]
  rfl
theorem outOf_thr {v : Option Fa} {f : Fa} (h : outOf v = .thr f) : v = some f := by
  cases v with
  | none => cases h
  | some g => cases h; rfl
theorem firstF_none : ∀ {l : List (Option Fa)}, firstF l = none → ∀ v ∈ l, v = none
  | [], _, v, hv => by cases hv
  | some f :: r, h, v, hv => by simp [firstF] at h
  | none :: r, h, v, hv => by
    rcases List.mem_cons.1 hv with rfl | hv
    · rfl
    · exact firstF_none (by simpa [firstF] using h) v hv
theorem langG_all {k : Cont} (h : langG k = none) : ownW k.name k.ver = none ∧ eachV 8 (elemF 1) (useO k.name k.us) 0 k.us = none ∧ eachV 128 (elemF 2) (conG k.cs) 0 k.cs = none ∧ eachV 256 (elemF 3) (ruleO k.ru) 0 k.ru = none ∧ eachV 256 (elemF 4) eqG 0 k.qs = none ∧ eachV 256 (elemF 5) (rowG 5 6 k.es) 0 k.es = none ∧ eachV 256 (elemF 6) (rowG 6 5 k.ts) 0 k.ts = none := by
  have hn := firstF_none h
  exact ⟨hn _ (by simp), hn _ (by simp), hn _ (by simp), hn _ (by simp), hn _ (by simp), hn _ (by simp), hn _ (by simp)⟩
theorem langG_of {k : Cont} (h0 : ownW k.name k.ver = none) (h1 : eachV 8 (elemF 1) (useO k.name k.us) 0 k.us = none) (h2 : eachV 128 (elemF 2) (conG k.cs) 0 k.cs = none) (h3 : eachV 256 (elemF 3) (ruleO k.ru) 0 k.ru = none) (h4 : eachV 256 (elemF 4) eqG 0 k.qs = none) (h5 : eachV 256 (elemF 5) (rowG 5 6 k.es) 0 k.es = none) (h6 : eachV 256 (elemF 6) (rowG 6 5 k.ts) 0 k.ts = none) : langG k = none := by
  unfold langG
  rw [h0, h1, h2, h3, h4, h5, h6]; rfl
end Go.Proofs.YtilemieknfdjnaaGreat
namespace Go.Proofs.YtilemieknfdjnaaGreat
open Go Go.RowKit Go.Sort
set_option linter.unusedVariables false
/-- a number's rest -/
def restV (x : Int) (n : Nat) : Nat := ((IntKind.u64.wrap x).tmod n).toNat
theorem u64_pos (x : Int) : 0 ≤ IntKind.u64.wrap x := by
  simp only [IntKind.wrap, IntKind.bits, IntKind.signed]
  first | exact Int.emod_nonneg _ (by decide) | (split <;> first | exact Int.emod_nonneg _ (by decide) | omega)
theorem restV_eq (x : Int) (n : Nat) : (IntKind.u64.wrap x).tmod n = (restV x n : Int) := by
  unfold restV
  rw [Int.toNat_of_nonneg (Int.tmod_nonneg _ (u64_pos x))]
theorem restV_lt (x : Int) {n : Nat} (h : 0 < n) : restV x n < n := by
  have h1 := Int.tmod_lt_of_pos (IntKind.u64.wrap x) (b := (n : Int)) (by omega)
  rw [restV_eq] at h1
  omega
set_option maxRecDepth 20000 in
set_option maxHeartbeats 800000 in
theorem rest_any (w : World) (x : Int) (n : Nat) (h0 : 0 < n) (h1 : n ≤ 5000) :
    Calls Tryz.prog 9 #[.int .i64 x, .int .i64 n] w fun e w' => e = .returned (.int .i64 (restV x n)) ∧ w = w' := by
  have hlt := restV_lt x h0
  have HW : Hid (wrap64 ((IntKind.u64.wrap x).tmod n) = (restV x n : Int)) := Lib.hid (by
    rw [restV_eq]
    exact IntWalk.wrap64_in (restV x n : Int) (by omega))
  clear hlt
  go_enter Tryz.func9, Tryz.ntmps9
  go_wp2_with fail
  go_ret
  exact ⟨by rw [HW.out]; rfl, rfl⟩
theorem eachV_err {α : Type} {most : Nat} {pl : Nat → Fa} {one : Nat → α → Out} (ho : ∀ i x f, one i x = .thr f → f.err ≠ 0) : ∀ {l : List α} {i : Nat} {f : Fa}, eachV most pl one i l = some f → f.err ≠ 0
  | [], i, f, h => by simp [eachV] at h
  | x :: r, i, f, h => by
    rw [eachV] at h
    split at h
    · cases h; simp
    · cases hv : one i x with
      | thr g =>
        rw [hv] at h
        unfold Out.fault at h
        simp only at h
        cases h
        exact ho i x f hv
      | ret k =>
        rw [hv] at h
        unfold Out.fault at h
        simp only at h
        by_cases hk : k = 0
        · rw [if_pos hk] at h; exact eachV_err ho h
        · rw [if_neg hk] at h; cases h; exact hk
theorem partsF_err {c : ConD} {i : Nat} {f : Fa} (h : partsF c i = some f) : f.err ≠ 0 := by
  unfold partsF orElse3 at h
  split at h
  · rename_i g hg
    cases h
    exact eachV_err (fun i x f hf => by unfold propO at hf; cases hf) hg
  · split at h
    · rename_i g hg
      cases h
      exact eachV_err (fun i x f hf => by unfold kidO at hf; cases hf) hg
    · exact eachV_err (fun i x f hf => by unfold refO at hf; cases hf) h
theorem rowG_err (lst kinds : Int) (l : List RowD) (i : Nat) (x : RowD) (f : Fa) (h : rowG lst kinds l i x = .thr f) : f.err ≠ 0 := by
  unfold rowG at h
  simp only at h
  split at h
  · have h2 := outOf_thr h
    unfold rowF at h2
    split at h2
    · cases h2; simp
    · exact eachV_err (fun i x f hf => by cases hf) h2
  · cases h
theorem langG_err {k : Cont} {f : Fa} (h : langG k = some f) : f.err ≠ 0 := by
  have key : ∀ (l : List (Option Fa)), (∀ v ∈ l, ∀ f, v = some f → f.err ≠ 0) → firstF l = some f → f.err ≠ 0 := by
    intro l
    induction l with
    | nil => intro _ h; simp [firstF] at h
    | cons v r ih =>
      intro hl hf
      cases v with
      | some g => simp [firstF] at hf; subst hf; exact hl _ (List.mem_cons_self ..) _ rfl
      | none => exact ih (fun v hv => hl v (List.mem_cons_of_mem _ hv)) (by simpa [firstF] using hf)
  refine key _ ?_ h
  intro v hv g hg
  simp only [List.mem_cons, List.not_mem_nil, or_false] at hv
  rcases hv with rfl | rfl | rfl | rfl | rfl | rfl | rfl
  · unfold ownW at hg
    split at hg
    · split at hg
      · cases hg; simp
      · cases hg
    · cases hg; simp
  · exact eachV_err (fun i x f hf => by unfold useO at hf; cases hf) hg
  · exact eachV_err (fun i x f hf => by
      unfold conG at hf
      simp only at hf
      split at hf
      · split at hf
        · cases hf
        · split at hf
          · cases hf
          · exact partsF_err (outOf_thr hf)
      · cases hf) hg
  · exact eachV_err (fun i x f hf => by unfold ruleO at hf; cases hf) hg
  · exact eachV_err (fun i x f hf => by
      unfold eqG at hf
      split at hf
      · exact eachV_err (fun i x f hf => by cases hf) (outOf_thr hf)
      · cases hf) hg
  · exact eachV_err (rowG_err 5 6 _) hg
  · exact eachV_err (rowG_err 6 5 _) hg
def SideFit (l : List SideD) : Prop := ∀ y ∈ l, y.args.length ≤ 268435456
structure FitK (k : Cont) : Prop where
  q : ∀ g ∈ k.qs, SideFit g.ls ∧ SideFit g.rs
  e : ∀ g ∈ k.es, ∀ y ∈ g.cells, CellFit y
  t : ∀ g ∈ k.ts, ∀ y ∈ g.cells, CellFit y
theorem fit_iff (x : LangM) : Fit x ↔ FitK (cont x) := by
  constructor
  · rintro ⟨hq, he, ht⟩
    refine ⟨fun g hg => ?_, fun g hg => ?_, fun g hg => ?_⟩
    · obtain ⟨p, hp, rfl⟩ := List.mem_map.1 hg
      exact ⟨fun y hy => by obtain ⟨z, hz, rfl⟩ := List.mem_map.1 hy; exact (hq p hp).1 z hz, fun y hy => by obtain ⟨z, hz, rfl⟩ := List.mem_map.1 hy; exact (hq p hp).2 z hz⟩
    · obtain ⟨p, hp, rfl⟩ := List.mem_map.1 hg; exact he p hp
    · obtain ⟨p, hp, rfl⟩ := List.mem_map.1 hg; exact ht p hp
  · rintro ⟨hq, he, ht⟩
    refine ⟨fun g hg => ?_, fun g hg => ?_, fun g hg => ?_⟩
    · have := hq (eqK' g) (List.mem_map_of_mem hg)
      exact ⟨fun y hy => this.1 y.1 (List.mem_map_of_mem hy), fun y hy => this.2 y.1 (List.mem_map_of_mem hy)⟩
    · exact he g.1 (List.mem_map_of_mem (f := fun c : RowD × Sl => c.1) hg)
    · exact ht g.1 (List.mem_map_of_mem (f := fun c : RowD × Sl => c.1) hg)
end Go.Proofs.YtilemieknfdjnaaGreat
namespace Go.Proofs.YtilemieknfdjnaaGreat
open Go Go.RowKit Go.Sort
set_option linter.unusedVariables false
attribute [local go_sem ↓] Go.wp_at_zero Go.wp_at_succ
theorem fit4_of {x : LangM} (h : FitG x) (f : Fit x) : Fit4 x := by
  have := h.n
  exact ⟨by omega, by omega, by omega, by omega, by omega, by omega, h.cs, fun g hg => ⟨(h.qs g hg).1, (h.qs g hg).2, fun p hp => by have := (f.q g hg).1 p hp; omega, fun p hp => by have := (f.q g hg).2 p hp; omega⟩, h.es, h.ts⟩
theorem B2.far2 {w X : World} {t : TypeId} {cs ds : Array Value} {g i : Nat} (h : B2 w t cs ds X) (hg : w.heap.size + 1 < g) (u : Value) : B2 w t cs ds (X.setCell ⟨g, i, none⟩ u) :=
  ⟨h.a.far (p := ⟨g, i, none⟩) (by show _ ≠ g; omega) u, h.b.far (p := ⟨g, i, none⟩) (by show _ ≠ g; omega) u, h.bel.setCell (p := ⟨g, i, none⟩) (by show _ ≤ g; omega) u⟩
/-- appending to a list in own memory, and laying it into its box, leaves own memory of other types -/
structure Stp (Y Y' : World) (T : TypeId) : Prop where
  keep : ∀ {B : Nat} {e : TypeId} {size n : Nat} {v : Value} {xs : List Value}, Y.ownsRow B e size v n xs → e ≠ T → e ≠ 29 → Y'.ownsRow B e size v n xs
theorem con_step {Y Y' : World} {T : TypeId} (s : Stp Y Y' T) {B : Nat} {g : ConD × Leaf} (h : ConOwn Y B g) (h1 : 85 ≠ T) (h2 : 62 ≠ T) (h3 : 87 ≠ T) : ConOwn Y' B g :=
  ⟨h.pn, h.kn, h.rn, s.keep h.p h1 (by decide), s.keep h.k h2 (by decide), s.keep h.r h3 (by decide)⟩
theorem so_step {Y Y' : World} {T : TypeId} (s : Stp Y Y' T) {B : Nat} {S : Sl} {l : List (SideD × Sl)} (h : SO Y B S l) (h1 : 141 ≠ T) (h2 : 3 ≠ T) : SO Y' B S l :=
  ⟨h.n, s.keep h.own h1 (by decide), fun p hp => ⟨(h.leaf p hp).1, s.keep (h.leaf p hp).2 h2 (by decide)⟩⟩
theorem eq_step {Y Y' : World} {T : TypeId} (s : Stp Y Y' T) {B : Nat} {g : EqM} (h : EqOwn Y B g) (h1 : 141 ≠ T) (h2 : 3 ≠ T) : EqOwn Y' B g := ⟨so_step s h.l h1 h2, so_step s h.r h1 h2⟩
theorem row_step {Y Y' : World} {T T' : TypeId} (s : Stp Y Y' T) {B : Nat} {g : RowD × Sl} (h : RowOwn T' Y B g) (h1 : T' ≠ T) (h2 : T' ≠ 29) : RowOwn T' Y' B g := ⟨h.qn, s.keep h.q h1 h2⟩
/-- the boxes and the copy, between the copy and the lengthened list -/
structure HSt (w : World) (x z y : LangM) (gx g10 : Nat) (Y : World) : Prop where
  q : B2 w 29 #[.string x.name, .int .i64 x.ver, .slice x.U.A x.U.n x.U.c, .slice x.C.A x.C.n x.C.c, .slice x.N.A x.N.n x.N.c, .slice x.Q.A x.Q.n x.Q.c, .slice x.E.A x.E.n x.E.c, .slice x.T.A x.T.n x.T.c] #[.string z.name, .int .i64 z.ver, .slice z.U.A z.U.n z.U.c, .slice z.C.A z.C.n z.C.c, .slice z.N.A z.N.n z.N.c, .slice z.Q.A z.Q.n z.Q.c, .slice z.E.A z.E.n z.E.c, .slice z.T.A z.T.n z.T.c] Y
  bx : Blk Y gx 29 #[.string y.name, .int .i64 y.ver, .slice y.U.A y.U.n y.U.c, .slice y.C.A y.C.n y.C.c, .slice y.N.A y.N.n y.N.c, .slice y.Q.A y.Q.n y.Q.c, .slice y.E.A y.E.n y.E.c, .slice y.T.A y.T.n y.T.c]
  bs : Blk Y g10 40 #[.int .i64 2, .int .i64 x.U.n, .int .i64 x.C.n, .int .i64 x.N.n, .int .i64 x.Q.n, .int .i64 x.E.n, .int .i64 x.T.n]
  o : TwinOwn Y (w.heap.size + 2) y
  l : LangIn Y 0 Y.heap.size y
theorem TwinOwn.after {X X' : World} {B : Nat} {y : LangM} (h : TwinOwn X B y) (hb : Below X.heap.size X X') : TwinOwn X' B y := ⟨own_after h.u hb, own_after h.n hb, h.c.after conOK hb, h.q.after eqOK hb, h.e.after edOK hb, h.t.after teOK hb⟩
theorem HSt.after {w : World} {x z y : LangM} {gx g10 : Nat} {Y Y' : World} (h : HSt w x z y gx g10 Y) (hb : Below Y.heap.size Y Y') : HSt w x z y gx g10 Y' := ⟨h.q.after hb, h.bx.after hb, h.bs.after hb, h.o.after hb, langK.mono (langK.below h.l hb) (Nat.le_refl _) hb.size⟩
theorem TwinOwn.lower {X w w' : World} {y : LangM} (h : TwinOwn X (w'.heap.size + 2) y) (hs : w.heap.size ≤ w'.heap.size) : TwinOwn X (w.heap.size + 2) y :=
  ⟨own_mono h.u (by omega), own_mono h.n (by omega), GL.monoB h.c conOK (by omega), GL.monoB h.q eqOK (by omega), GL.monoB h.e edOK (by omega), GL.monoB h.t teOK (by omega)⟩
theorem own_len {X : World} {B size n m : Nat} {e : TypeId} {v : Value} {xs : List Value} (h : X.ownsRow B e size v m xs) (hn : n = m) : X.ownsRow B e size v n xs := by subst hn; exact h
theorem twin_nstr {x y : LangM} {X w : World} {hi : Nat} (hE : langEM x y = true) (hy : LangIn X 0 X.heap.size y) (hx : LangIn w 0 hi x) : y.U.n = x.U.n := by
  have h1 := congrArg (fun k : Cont => k.us.length) (cont_same hE)
  simp only [cont, List.length_map] at h1
  have h2 := hy.un
  have h3 := hx.un
  omega
theorem twin_ncon {x y : LangM} {X w : World} {hi : Nat} (hE : langEM x y = true) (hy : LangIn X 0 X.heap.size y) (hx : LangIn w 0 hi x) : y.C.n = x.C.n := by
  have h1 := congrArg (fun k : Cont => k.cs.length) (cont_same hE)
  simp only [cont, List.length_map] at h1
  have h2 := hy.c.n
  have h3 := hx.c.n
  omega
theorem twin_nru {x y : LangM} {X w : World} {hi : Nat} (hE : langEM x y = true) (hy : LangIn X 0 X.heap.size y) (hx : LangIn w 0 hi x) : y.N.n = x.N.n := by
  have h1 := congrArg (fun k : Cont => k.ru.length) (cont_same hE)
  simp only [cont, List.length_map] at h1
  have h2 := hy.nn
  have h3 := hx.nn
  omega
theorem twin_neq {x y : LangM} {X w : World} {hi : Nat} (hE : langEM x y = true) (hy : LangIn X 0 X.heap.size y) (hx : LangIn w 0 hi x) : y.Q.n = x.Q.n := by
  have h1 := congrArg (fun k : Cont => k.qs.length) (cont_same hE)
  simp only [cont, List.length_map] at h1
  have h2 := hy.q.n
  have h3 := hx.q.n
  omega
theorem twin_ned {x y : LangM} {X w : World} {hi : Nat} (hE : langEM x y = true) (hy : LangIn X 0 X.heap.size y) (hx : LangIn w 0 hi x) : y.E.n = x.E.n := by
  have h1 := congrArg (fun k : Cont => k.es.length) (cont_same hE)
  simp only [cont, List.length_map] at h1
  have h2 := hy.e.n
  have h3 := hx.e.n
  omega
theorem twin_nte {x y : LangM} {X w : World} {hi : Nat} (hE : langEM x y = true) (hy : LangIn X 0 X.heap.size y) (hx : LangIn w 0 hi x) : y.T.n = x.T.n := by
  have h1 := congrArg (fun k : Cont => k.ts.length) (cont_same hE)
  simp only [cont, List.length_map] at h1
  have h2 := hy.t.n
  have h3 := hx.t.n
  omega
/-- behind the lengthened list: y is the copy with it -/
structure HEnd (w : World) (x z y : LangM) (gx g10 : Nat) (Y : World) : Prop where
  q : B2 w 29 #[.string x.name, .int .i64 x.ver, .slice x.U.A x.U.n x.U.c, .slice x.C.A x.C.n x.C.c, .slice x.N.A x.N.n x.N.c, .slice x.Q.A x.Q.n x.Q.c, .slice x.E.A x.E.n x.E.c, .slice x.T.A x.T.n x.T.c] #[.string z.name, .int .i64 z.ver, .slice z.U.A z.U.n z.U.c, .slice z.C.A z.C.n z.C.c, .slice z.N.A z.N.n z.N.c, .slice z.Q.A z.Q.n z.Q.c, .slice z.E.A z.E.n z.E.c, .slice z.T.A z.T.n z.T.c] Y
  bx : Blk Y gx 29 #[.string y.name, .int .i64 y.ver, .slice y.U.A y.U.n y.U.c, .slice y.C.A y.C.n y.C.c, .slice y.N.A y.N.n y.N.c, .slice y.Q.A y.Q.n y.Q.c, .slice y.E.A y.E.n y.E.c, .slice y.T.A y.T.n y.T.c]
  bs : Blk Y g10 40 #[.int .i64 2, .int .i64 x.U.n, .int .i64 x.C.n, .int .i64 x.N.n, .int .i64 x.Q.n, .int .i64 x.E.n, .int .i64 x.T.n]
  l : LangIn Y 0 Y.heap.size y
theorem HEnd.after {w : World} {x z y : LangM} {gx g10 : Nat} {Y Y' : World} (h : HEnd w x z y gx g10 Y) (hb : Below Y.heap.size Y Y') : HEnd w x z y gx g10 Y' := ⟨h.q.after hb, h.bx.after hb, h.bs.after hb, langK.mono (langK.below h.l hb) (Nat.le_refl _) hb.size⟩
section
variable {P : Program} {w : World}
end
end Go.Proofs.YtilemieknfdjnaaGreat

/-
  WALKS over the statements' own functions: awake, alike, same.
-/
import Derived.Test.YtinhlemebnlijaaDoorY13
import Derived.BigQuiet
namespace Go.Proofs.YtinhlemebnlijaaDoor
open Go Go.RowKit
set_option linter.unusedVariables false
structure After (w w' : World) : Prop where
  below : Below w.heap.size w w'
theorem After.refl (w : World) : After w w := ⟨Below.refl _ _⟩
theorem After.next {w w1 w2 : World} (h : After w w1) (hb : Below w1.heap.size w1 w2) : After w w2 := ⟨h.below.trans (hb.mono h.below.size)⟩
/-- Scan's answer: a list of the call's own -/
def ScanIs (w : World) (l : List Tok) (n c : Int) (e : Ending) (w' : World) : Prop :=
  ∃ A k, e = .returned (.tuple #[.slice A l.length k, .int .i64 n, .int .i64 c]) ∧ OwnT w' w.heap.size (.slice A l.length k) l ∧ Below w.heap.size w w'
theorem scan_is {s : ByteArray} {l : List Tok} {n : Nat} {c : Int} {w : World} (hs : s.size ≤ 140737488355328) (hE : ScanEnv w) (h : scanR s.data.toList = (l, n, c)) : Calls Tryd.prog 9 #[.string s] w (ScanIs w l n c) :=
  (scan_any s w hs hE).mono fun e w' ⟨v, he, ho, hb⟩ => by
    rw [h] at he ho
    obtain ⟨A, k, rfl⟩ := own_form ho
    exact ⟨A, k, he, ho, hb⟩
/-- tokens' cells in a row of the call's own -/
theorem ownT_cells {w : World} {B : Nat} {A : Option Addr} {k : Nat} {l : List Tok} (h : OwnT w B (.slice A l.length k) l) (hl : l ≠ []) : ∃ g, A = some ⟨g, 0, none⟩ ∧ B ≤ g ∧ g < w.heap.size ∧ ∀ i t, l[i]? = some t → CellsAt w g (i * 4) t := by
  rcases h.2 with ⟨hv, hn⟩ | ⟨g, cap, cur, hv, hb, hg, _⟩
  · exact absurd (List.length_eq_zero_iff.1 hn) hl
  · injection hv with h1 h2 h3
    subst h1
    refine ⟨g, rfl, hb, (Array.getElem?_eq_some_iff.1 hg).1, fun i t ht => ?_⟩
    have hc := World.ownsRow.cells h (g := g) rfl
    have key : ∀ j u, j < 4 → (tokCells t)[j]? = some u → w.cell? ⟨g, i * 4 + j, none⟩ = some u := by
      intro j u hj hu
      have := hc (i * 4 + j) u (by unfold toksCells; rw [flatN_get tokCells_len l i t ht j hj]; exact hu)
      rw [Addr.add_lit] at this
      simpa using this
    exact ⟨key 0 _ (by omega) rfl, key 1 _ (by omega) rfl, key 2 _ (by omega) rfl, key 3 _ (by omega) rfl⟩
def JoinIs (w : World) (t : ByteArray) (c : Int) (e : Ending) (w' : World) : Prop := e = .returned (.tuple #[.string t, .int .i64 c]) ∧ Below w.heap.size w w'
theorem join_new {w : World} {l : List Tok} {cs : Array Value} {t : List UInt8} {c : Int} (n : Nat) (hn : l.length = n) (hc : cs.toList = toksCells l) (hl : l.length ≤ 100) (ht : ∀ k ∈ l, TokOk k) (hL : LexEnv w) (h : joinR l = (t, c)) :
    Calls Tryd.prog 12 #[.slice (some ⟨w.heap.size, 0, none⟩) n n] (w.alloc (.cells cs 30)) (JoinIs (w.alloc (.cells cs 30)) (ba t) c) := by
  subst hn
  have hr : TokIn (w.alloc (.cells cs 30)) (w.heap.size + 1) (some ⟨w.heap.size, 0, none⟩) l.length l.length l := by
    have hs : cs.size = l.length * 4 := by rw [← Array.length_toList, hc, toksCells_len]
    have := row_blk (size := 4) (Blk.new w 30 cs) hs (Nat.le_refl l.length) (by unfold maxLen; omega)
    rw [hc] at this
    exact this.mono (Nat.zero_le _) (Nat.le_refl _)
  have := join_any _ _ _ _ _ l hr (by simp) ht (hL.below ((Below.refl _ _).alloc (Nat.le_refl _) _))
  rw [h] at this
  exact this
theorem tokOk_of {k : Tok} (h0 : 0 ≤ k.int) (h1 : k.int ≤ 1000) (h2 : k.text.size ≤ 1000) : TokOk k := ⟨by omega, by omega, by omega⟩
def jn1 : List Tok := [⟨1, ⟨#[]⟩, 12, 0⟩, ⟨5, ⟨#[45, 62]⟩, 0, 0⟩, ⟨2, ⟨#[97]⟩, 0, 0⟩]
def jn2 : List Tok := [⟨3, ⟨#[110, 111, 116]⟩, 0, 0⟩]
theorem jn1_ok : ∀ k ∈ jn1, TokOk k := by
  intro k hk
  simp only [jn1, List.mem_cons, List.not_mem_nil, or_false] at hk
  rcases hk with rfl | rfl | rfl <;> exact tokOk_of (by decide) (by decide) (by decide)
theorem jn2_ok : ∀ k ∈ jn2, TokOk k := by
  intro k hk
  simp only [jn2, List.mem_cons, List.not_mem_nil, or_false] at hk
  rcases hk with rfl; exact tokOk_of (by decide) (by decide) (by decide)
def jc1 : Array Value := #[.int .i64 1, .string ⟨#[]⟩, .int .i64 12, .int .i64 0, .int .i64 5, .string ⟨#[45, 62]⟩, .int .i64 0, .int .i64 0, .int .i64 2, .string ⟨#[97]⟩, .int .i64 0, .int .i64 0]
def jc2 : Array Value := #[.int .i64 3, .string ⟨#[110, 111, 116]⟩, .int .i64 0, .int .i64 0]
structure AwakeCalls (w : World) : Prop where
  s1 : ∀ Y, After w Y → Calls Tryd.prog 9 #[.string ⟨#[115, 101, 108, 102, 46, 97, 45, 62, 98]⟩] Y (fun e w' => ∃ A k, e = .returned (.tuple #[.slice A 5 k, .int .i64 0, .int .i64 0]) ∧ OwnT w' Y.heap.size (.slice A awT.length k) awT ∧ Below Y.heap.size Y w')
  s2 : ∀ Y, After w Y → Calls Tryd.prog 9 #[.string ⟨#[97, 32, 61, 32, 98]⟩] Y (fun e w' => ∃ A k, e = .returned (.tuple #[.slice A 0 k, .int .i64 3, .int .i64 70]) ∧ Below Y.heap.size Y w')
  s3 : ∀ Y, After w Y → Calls Tryd.prog 9 #[.string ⟨#[48, 48, 55]⟩] Y (fun e w' => ∃ A k, e = .returned (.tuple #[.slice A 0 k, .int .i64 1, .int .i64 70]) ∧ Below Y.heap.size Y w')
  j1 : ∀ Y, After w Y → Calls Tryd.prog 12 #[.slice (some ⟨Y.heap.size, 0, none⟩) 3 3] (Y.alloc (.cells #[.int .i64 1, .string ⟨#[]⟩, .int .i64 12, .int .i64 0, .int .i64 5, .string ⟨#[45, 62]⟩, .int .i64 0, .int .i64 0, .int .i64 2, .string ⟨#[97]⟩, .int .i64 0, .int .i64 0] 30)) (fun e w' => e = .returned (.tuple #[.string ⟨#[49, 50, 32, 45, 62, 32, 34, 97, 34]⟩, .int .i64 0]) ∧ Below Y.heap.size Y w')
  j2 : ∀ Y, After w Y → Calls Tryd.prog 12 #[.slice (some ⟨Y.heap.size, 0, none⟩) 1 1] (Y.alloc (.cells #[.int .i64 3, .string ⟨#[110, 111, 116]⟩, .int .i64 0, .int .i64 0] 30)) (fun e w' => e = .returned (.tuple #[.string ⟨#[]⟩, .int .i64 2]) ∧ Below Y.heap.size Y w')
theorem awakeCalls (w : World) (hE : ScanEnv w) : AwakeCalls w := by
  have key : ∀ (Y : World) (o : Obj) (w' : World), Below (Y.alloc o).heap.size (Y.alloc o) w' → Below Y.heap.size Y w' := fun Y o w' h => ((Below.refl _ _).alloc (Nat.le_refl _) _).trans (h.mono (by simp))
  refine ⟨fun Y h => ?_, fun Y h => ?_, fun Y h => ?_, fun Y h => ?_, fun Y h => ?_⟩
  · exact (scan_is (s := ⟨#[115, 101, 108, 102, 46, 97, 45, 62, 98]⟩) (by decide) (hE.below h.below) aw1).mono fun e w' ⟨A, k, he, ho, hb⟩ => ⟨A, k, he, ho, hb⟩
  · exact (scan_is (s := ⟨#[97, 32, 61, 32, 98]⟩) (by decide) (hE.below h.below) aw2).mono fun e w' ⟨A, k, he, ho, hb⟩ => ⟨A, k, he, hb⟩
  · exact (scan_is (s := ⟨#[48, 48, 55]⟩) (by decide) (hE.below h.below) aw3).mono fun e w' ⟨A, k, he, ho, hb⟩ => ⟨A, k, he, hb⟩
  · exact (join_new (w := Y) (l := jn1) 3 rfl rfl (by decide) jn1_ok (hE.below h.below).lex aw4).mono fun e w' ⟨he, hb⟩ => ⟨he, key _ _ _ hb⟩
  · exact (join_new (w := Y) (l := jn2) 1 rfl rfl (by decide) jn2_ok (hE.below h.below).lex aw5).mono fun e w' ⟨he, hb⟩ => ⟨he, key _ _ _ hb⟩
set_option maxRecDepth 100000 in
set_option maxHeartbeats 3200000 in
theorem awake_any (w : World) (hE : ScanEnv w) : Calls Tryd.prog 14 #[] w (Tells1 w true) := by
  have HC := awakeCalls w hE
  clear hE
  go_enter Tryd.func14, Tryd.ntmps14
  go_wp2_with fail
  refine (HC.s1 w (After.refl w)).mono ?_
  rintro e w1 ⟨A1, k1, rfl, ho1, hb1⟩
  have A1' := (After.refl w).next hb1
  clear hb1
  go_wp2_with fail
  refine (HC.s2 _ A1').mono ?_
  rintro e w2 ⟨A2, k2, rfl, hb2⟩
  have A2' := A1'.next hb2
  have ho2 := own_after ho1 hb2
  clear hb2 ho1
  go_wp2_with fail
  refine (HC.s3 _ A2').mono ?_
  rintro e w3 ⟨A3, k3, rfl, hb3⟩
  have A3' := A2'.next hb3
  have ho3 := own_after ho2 hb3
  clear hb3 ho2
  go_wp2_with fail
  refine (HC.j1 _ A3').mono ?_
  rintro e w4 ⟨rfl, hb4⟩
  have A4' := A3'.next hb4
  have ho4 := own_after ho3 hb4
  clear hb4 ho3
  go_wp2_with fail
  refine (HC.j2 _ A4').mono ?_
  rintro e w5 ⟨rfl, hb5⟩
  have A5' := A4'.next hb5
  have ho5 := own_after ho4 hb5
  clear hb5 ho4
  obtain ⟨g, rfl, _, _, hcs⟩ := ownT_cells ho5 (by decide)
  have q0 := hcs 0 _ rfl
  have q3 := hcs 3 _ rfl
  have q4 := hcs 4 _ rfl
  have a0 : w5.cell? ⟨g, 0, none⟩ = some (.int .i64 4) := q0.c0
  have a1 : w5.cell? ⟨g, 1, none⟩ = some (.string ⟨#[115, 101, 108, 102]⟩) := q0.c1
  have a2 : w5.cell? ⟨g, 2, none⟩ = some (.int .i64 0) := q0.c2
  have a3 : w5.cell? ⟨g, 3, none⟩ = some (.int .i64 0) := q0.c3
  have b0 : w5.cell? ⟨g, 12, none⟩ = some (.int .i64 5) := q3.c0
  have b1 : w5.cell? ⟨g, 13, none⟩ = some (.string ⟨#[45, 62]⟩) := q3.c1
  have b2 : w5.cell? ⟨g, 14, none⟩ = some (.int .i64 0) := q3.c2
  have b3 : w5.cell? ⟨g, 15, none⟩ = some (.int .i64 6) := q3.c3
  have d0 : w5.cell? ⟨g, 16, none⟩ = some (.int .i64 3) := q4.c0
  have d1 : w5.cell? ⟨g, 17, none⟩ = some (.string ⟨#[98]⟩) := q4.c1
  have d2 : w5.cell? ⟨g, 18, none⟩ = some (.int .i64 0) := q4.c2
  have d3 : w5.cell? ⟨g, 19, none⟩ = some (.int .i64 8) := q4.c3
  have HA := Lib.hid A5'.below
  clear hcs q0 q3 q4 ho5 A1' A2' A3' A4' A5' HC
  go_wp2_with fail
  go_ret
  exact tells1 rfl HA.out
end Go.Proofs.YtinhlemebnlijaaDoor

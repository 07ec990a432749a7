/-
  WALKS over the document's reader: nodes with kids; level where it has stopped; between.
-/
import Derived.Test.YtckfcpiedainfaaGreatDoorZE32
namespace Go.Proofs.YtckfcpiedainfaaGreatDoor
open Go Go.RowKit Go.Sort
set_option linter.unusedVariables false
section
variable {w X X' : World} {A : Option Addr} {c : Nat} {all : List Tok} {fin bad q : Int} {N M p p1 : Nat} {ts : List (Nat × Tr)}
theorem DS.relax (h : DS w A c all fin bad N ts p X) (hN : N ≤ M) : DS w A c all fin bad M ts p X := by
  obtain ⟨h1, h2, m, Am, cm, h3, h4, h5, h6⟩ := h
  exact ⟨h1, h2, m, Am, cm, h3, h4, by omega, h6⟩
theorem DBad.relax (h : DBad w A c all fin q N X) (hN : N ≤ M) : DBad w A c all fin q M X := ⟨h.1, h.2.elim fun p hp => ⟨p, hp.relax hN⟩⟩
theorem row_ints {X : World} {n : Nat} {ks : List Int} (hn : ks.length = n) (h3 : n ≤ 3) : Row (X.alloc (.cells (intCells ks).toArray 3)) 0 (X.alloc (.cells (intCells ks).toArray 3)).heap.size 1 (some ⟨X.heap.size, 0, none⟩) n n (intCells ks) := by
  have := row_blk (heap_alloc_new X (.cells (intCells ks).toArray 3)) (size := 1) (n := n) (c := n) (by simp [intCells_length, hn]) (Nat.le_refl _) (by unfold maxLen; omega)
  refine Row.mono (by simpa using this) (Nat.zero_le _) (by simp)
theorem row_none {X : World} : Row X 0 X.heap.size 1 none 0 0 (intCells []) := ⟨rfl, Nat.le_refl _, Nat.zero_le _, fun h => absurd h (by decide)⟩
/-- a tree that comes; a stop -/
def LGot (w : World) (A : Option Addr) (c : Nat) (all : List Tok) (fin : Int) (N : Nat) (ts : List (Nat × Tr)) (t : Tr) (p : Nat) (e : Ending) (X' : World) : Prop := ∃ j : Nat, e = .returned (.int .i64 (j : Int)) ∧ DS w A c all fin (-1) N ((j, t) :: ts) p X'
def LBad (w : World) (A : Option Addr) (c : Nat) (all : List Tok) (fin : Int) (N : Nat) (q : Int) (e : Ending) (X' : World) : Prop := ∃ v : Int, e = .returned (.int .i64 v) ∧ DBad w A c all fin q N X'
theorem DS.add0 (h : DS w A c all fin (-1) N ts p X) (hN : N ≤ 100000) (k : Int) (s : ByteArray) (i : Int) :
    Calls Tryz.prog 40 #[.pointer (some ⟨w.heap.size, 0, none⟩), .int .i64 k, .string s, .int .i64 i, .slice none 0 0] X (LGot w A c all fin (N + 1) ts ⟨k, s, i, .nil⟩ p) :=
  (dadd_any w A c all fin (-1) N p ts X h hN k s i none 0 0 [] row_none rfl (by decide)).mono fun e X' ⟨j, h1, _, h2⟩ => ⟨j, h1, h2 .nil fun l _ => rfl⟩
theorem DS.add1 {j1 : Nat} {t1 : Tr} (h : DS w A c all fin (-1) N ((j1, t1) :: ts) p X) (hN : N ≤ 100000) (k : Int) (s : ByteArray) (i : Int) :
    Calls Tryz.prog 40 #[.pointer (some ⟨w.heap.size, 0, none⟩), .int .i64 k, .string s, .int .i64 i, .slice (some ⟨X.heap.size, 0, none⟩) 1 1] (X.alloc (.cells #[.int .i64 (j1 : Int)] 3)) (LGot w A c all fin (N + 1) ts ⟨k, s, i, row1 t1⟩ p) :=
  (dadd_any w A c all fin (-1) N p _ _ (h.after (below_of_alloc _)) hN k s i _ 1 1 [(j1 : Int)] (row_ints rfl (by decide)) rfl (by decide)).mono fun e X' ⟨j, h1, _, h2⟩ => by
    have h3 := h2 (row1 t1) fun l hl => made1 (hl (j1, t1) List.mem_cons_self)
    obtain ⟨g1, g2, m, Am, cm, g3, g4, g5, g6⟩ := h3
    exact ⟨j, h1, g1, g2, m, Am, cm, g3, g4, g5, fun x hx => by
      rcases List.mem_cons.1 hx with rfl | hx
      · exact g6 _ List.mem_cons_self
      · exact g6 x (by simp [hx])⟩
theorem DS.add2 {j1 j2 : Nat} {t1 t2 : Tr} (h : DS w A c all fin (-1) N ((j2, t2) :: (j1, t1) :: ts) p X) (hN : N ≤ 100000) (k : Int) (s : ByteArray) (i : Int) :
    Calls Tryz.prog 40 #[.pointer (some ⟨w.heap.size, 0, none⟩), .int .i64 k, .string s, .int .i64 i, .slice (some ⟨X.heap.size, 0, none⟩) 2 2] (X.alloc (.cells #[.int .i64 (j1 : Int), .int .i64 (j2 : Int)] 3)) (LGot w A c all fin (N + 1) ts ⟨k, s, i, row2 t1 t2⟩ p) :=
  (dadd_any w A c all fin (-1) N p _ _ (h.after (below_of_alloc _)) hN k s i _ 2 2 [(j1 : Int), (j2 : Int)] (row_ints rfl (by decide)) rfl (by decide)).mono fun e X' ⟨j, h1, _, h2⟩ => by
    have h3 := h2 (row2 t1 t2) fun l hl => made2 (hl (j1, t1) (by simp)) (hl (j2, t2) List.mem_cons_self)
    obtain ⟨g1, g2, m, Am, cm, g3, g4, g5, g6⟩ := h3
    exact ⟨j, h1, g1, g2, m, Am, cm, g3, g4, g5, fun x hx => by
      rcases List.mem_cons.1 hx with rfl | hx
      · exact g6 _ List.mem_cons_self
      · exact g6 x (by simp [hx])⟩
theorem DS.add3 {j1 j2 j3 : Nat} {t1 t2 t3 : Tr} (h : DS w A c all fin (-1) N ((j3, t3) :: (j2, t2) :: (j1, t1) :: ts) p X) (hN : N ≤ 100000) (k : Int) (s : ByteArray) (i : Int) :
    Calls Tryz.prog 40 #[.pointer (some ⟨w.heap.size, 0, none⟩), .int .i64 k, .string s, .int .i64 i, .slice (some ⟨X.heap.size, 0, none⟩) 3 3] (X.alloc (.cells #[.int .i64 (j1 : Int), .int .i64 (j2 : Int), .int .i64 (j3 : Int)] 3)) (LGot w A c all fin (N + 1) ts ⟨k, s, i, row3 t1 t2 t3⟩ p) :=
  (dadd_any w A c all fin (-1) N p _ _ (h.after (below_of_alloc _)) hN k s i _ 3 3 [(j1 : Int), (j2 : Int), (j3 : Int)] (row_ints rfl (by decide)) rfl (by decide)).mono fun e X' ⟨j, h1, _, h2⟩ => by
    have h3 := h2 (row3 t1 t2 t3) fun l hl => made3 (hl (j1, t1) (by simp)) (hl (j2, t2) (by simp)) (hl (j3, t3) List.mem_cons_self)
    obtain ⟨g1, g2, m, Am, cm, g3, g4, g5, g6⟩ := h3
    exact ⟨j, h1, g1, g2, m, Am, cm, g3, g4, g5, fun x hx => by
      rcases List.mem_cons.1 hx with rfl | hx
      · exact g6 _ List.mem_cons_self
      · exact g6 x (by simp [hx])⟩
/-- .. where it has stopped: some node -/
theorem DBad.addK (h : DBad w A c all fin q N X) (hN : N ≤ 100000) (k : Int) (s : ByteArray) (i : Int) (n : Nat) (ks : List Int) (hn : ks.length = n) (h3 : n ≤ 3) :
    Calls Tryz.prog 40 #[.pointer (some ⟨w.heap.size, 0, none⟩), .int .i64 k, .string s, .int .i64 i, .slice (some ⟨X.heap.size, 0, none⟩) n n] (X.alloc (.cells (intCells ks).toArray 3)) (LBad w A c all fin (N + 1) q) := by
  obtain ⟨h0, p, hp⟩ := h
  exact (dadd_any w A c all fin q N p _ _ (hp.after (below_of_alloc _)) hN k s i _ n n ks (row_ints hn h3) hn h3).mono fun e X' ⟨j, h1, h2, _⟩ => ⟨j, h1, h0, p, h2.less⟩
theorem DBad.add1 (h : DBad w A c all fin q N X) (hN : N ≤ 100000) (k : Int) (s : ByteArray) (i v1 : Int) :
    Calls Tryz.prog 40 #[.pointer (some ⟨w.heap.size, 0, none⟩), .int .i64 k, .string s, .int .i64 i, .slice (some ⟨X.heap.size, 0, none⟩) 1 1] (X.alloc (.cells #[.int .i64 v1] 3)) (LBad w A c all fin (N + 1) q) := h.addK hN k s i 1 [v1] rfl (by decide)
theorem DBad.add2 (h : DBad w A c all fin q N X) (hN : N ≤ 100000) (k : Int) (s : ByteArray) (i v1 v2 : Int) :
    Calls Tryz.prog 40 #[.pointer (some ⟨w.heap.size, 0, none⟩), .int .i64 k, .string s, .int .i64 i, .slice (some ⟨X.heap.size, 0, none⟩) 2 2] (X.alloc (.cells #[.int .i64 v1, .int .i64 v2] 3)) (LBad w A c all fin (N + 1) q) := h.addK hN k s i 2 [v1, v2] rfl (by decide)
theorem DBad.add3 (h : DBad w A c all fin q N X) (hN : N ≤ 100000) (k : Int) (s : ByteArray) (i v1 v2 v3 : Int) :
    Calls Tryz.prog 40 #[.pointer (some ⟨w.heap.size, 0, none⟩), .int .i64 k, .string s, .int .i64 i, .slice (some ⟨X.heap.size, 0, none⟩) 3 3] (X.alloc (.cells #[.int .i64 v1, .int .i64 v2, .int .i64 v3] 3)) (LBad w A c all fin (N + 1) q) := h.addK hN k s i 3 [v1, v2, v3] rfl (by decide)
end
set_option maxHeartbeats 1600000 in
set_option maxRecDepth 20000 in
theorem dlevelB_any (w : World) (A : Option Addr) (c : Nat) (all : List Tok) (fin q : Int) (N : Nat) (X : World) (h : DBad w A c all fin q N X) (n : Int) :
    Calls Tryz.prog 21 #[.pointer (some ⟨w.heap.size, 0, none⟩), .int .i64 n] X (fun e X' => e = .returned (.int .i64 0) ∧ DBad w A c all fin q N X') := by
  obtain ⟨h0, p, hS⟩ := h
  obtain ⟨x0, x1, x2, x3, f1, f3⟩ := hS.cells
  have q1 : decide ((0 : Int) ≤ q) = true := decide_eq_true h0
  clear x0 x1 x2 f1 f3
  have HS := Lib.hid hS
  clear hS
  go_enter Tryz.func21, Tryz.ntmps21
  go_wp2_with fail
  go_ret
  exact ⟨rfl, h0, p, HS.out⟩
/-- is, at one state after another -/
theorem DS.isH {w : World} {A : Option Addr} {c : Nat} {all : List Tok} {fin : Int} (hcx : DCx w A c all fin) (p : Nat) (s : ByteArray) {b : Bool} (hb : isM (all.drop p) s.data.toList = b) : Hid (∀ N ts X, DS w A c all fin (-1) N ts p X → Calls Tryz.prog 39 #[.pointer (some ⟨w.heap.size, 0, none⟩), .string s] X (fun e X' => e = .returned (.bool b) ∧ DS w A c all fin (-1) N ts p X')) :=
  Lib.hid fun N ts X h => (dis_any w A c all fin hcx N p ts X h s).mono fun e X' hh => ⟨by rw [← hb]; exact hh.1, h.after hh.2⟩
def BetPost (w : World) (A : Option Addr) (c : Nat) (all : List Tok) (fin : Int) (N : Nat) (ts : List (Nat × Tr)) (p : Nat) (v : Int) (e : Ending) (X' : World) : Prop := e = .returned (.int .i64 v) ∧ (v = 0 → DS w A c all fin (-1) N ts p X') ∧ (v ≠ 0 → DS w A c all fin (-1) (N - 1) ts (p + 1) X')
set_option maxHeartbeats 3200000 in
set_option maxRecDepth 20000 in
theorem dbetween1 (w : World) (A : Option Addr) (c : Nat) (all : List Tok) (fin : Int) (hcx : DCx w A c all fin) (N p : Nat) (ts : List (Nat × Tr)) (X : World) (h : DS w A c all fin (-1) N ts p X) :
    Calls Tryz.prog 42 #[.pointer (some ⟨w.heap.size, 0, none⟩), .int .i64 1] X (BetPost w A c all fin N ts p (signV 1 (all.drop p))) := by
  have hroom := hcx.ok.room
  have hle := h.le
  have HS := Lib.hid h
  clear h
  cases h0 : isM (all.drop p) [111, 114] with
  | true =>
    have HI0 := DS.isH hcx p ⟨#[111, 114]⟩ (b := true) h0
    have hsv : signV 1 (all.drop p) = 28 := by simp [signV, h0]
    rw [hsv]
    have hp : p < all.length := by
      rcases Nat.lt_or_ge p all.length with hp | hp
      · exact hp
      · rw [List.drop_eq_nil_of_le hp] at h0; cases h0
    have hw1 : IntKind.i64.wrap ((p : Int) + 1) = (p : Int) + 1 := IntWalk.i64_in _ (by omega)
    clear hsv hcx h0
    go_enter Tryz.func42, Tryz.ntmps42
    go_wp2_with (first | (go_at_call 39; (with_reducible refine (HI0.out _ _ _ HS.out).mono ?_); rintro e wn ⟨rfl, hs⟩; clear HS; have HS := Lib.hid hs; obtain ⟨x0, x1, x2, x3, f1, f3⟩ := hs.cells; clear hs))
    go_ret
    exact ⟨rfl, fun e => absurd e (by decide), fun _ => HS.out.inc hp⟩
  | false =>
    have HI0 := DS.isH hcx p ⟨#[111, 114]⟩ (b := false) h0
    have hsv : signV 1 (all.drop p) = 0 := by simp [signV, h0]
    rw [hsv]
    clear hsv hcx h0
    go_enter Tryz.func42, Tryz.ntmps42
    go_wp2_with (first | (go_at_call 39; (with_reducible refine (HI0.out _ _ _ HS.out).mono ?_); rintro e wn ⟨rfl, hs⟩; clear HS; have HS := Lib.hid hs; obtain ⟨x0, x1, x2, x3, f1, f3⟩ := hs.cells; clear hs))
    go_ret
    exact ⟨rfl, fun _ => HS.out, fun e => absurd rfl e⟩
set_option maxHeartbeats 3200000 in
set_option maxRecDepth 20000 in
theorem dbetween2 (w : World) (A : Option Addr) (c : Nat) (all : List Tok) (fin : Int) (hcx : DCx w A c all fin) (N p : Nat) (ts : List (Nat × Tr)) (X : World) (h : DS w A c all fin (-1) N ts p X) :
    Calls Tryz.prog 42 #[.pointer (some ⟨w.heap.size, 0, none⟩), .int .i64 2] X (BetPost w A c all fin N ts p (signV 2 (all.drop p))) := by
  have hroom := hcx.ok.room
  have hle := h.le
  have HS := Lib.hid h
  clear h
  cases h0 : isM (all.drop p) [97, 110, 100] with
  | true =>
    have HI0 := DS.isH hcx p ⟨#[97, 110, 100]⟩ (b := true) h0
    have hsv : signV 2 (all.drop p) = 27 := by simp [signV, h0]
    rw [hsv]
    have hp : p < all.length := by
      rcases Nat.lt_or_ge p all.length with hp | hp
      · exact hp
      · rw [List.drop_eq_nil_of_le hp] at h0; cases h0
    have hw1 : IntKind.i64.wrap ((p : Int) + 1) = (p : Int) + 1 := IntWalk.i64_in _ (by omega)
    clear hsv hcx h0
    go_enter Tryz.func42, Tryz.ntmps42
    go_wp2_with (first | (go_at_call 39; (with_reducible refine (HI0.out _ _ _ HS.out).mono ?_); rintro e wn ⟨rfl, hs⟩; clear HS; have HS := Lib.hid hs; obtain ⟨x0, x1, x2, x3, f1, f3⟩ := hs.cells; clear hs))
    go_ret
    exact ⟨rfl, fun e => absurd e (by decide), fun _ => HS.out.inc hp⟩
  | false =>
    have HI0 := DS.isH hcx p ⟨#[97, 110, 100]⟩ (b := false) h0
    have hsv : signV 2 (all.drop p) = 0 := by simp [signV, h0]
    rw [hsv]
    clear hsv hcx h0
    go_enter Tryz.func42, Tryz.ntmps42
    go_wp2_with (first | (go_at_call 39; (with_reducible refine (HI0.out _ _ _ HS.out).mono ?_); rintro e wn ⟨rfl, hs⟩; clear HS; have HS := Lib.hid hs; obtain ⟨x0, x1, x2, x3, f1, f3⟩ := hs.cells; clear hs))
    go_ret
    exact ⟨rfl, fun _ => HS.out, fun e => absurd rfl e⟩
set_option maxHeartbeats 3200000 in
set_option maxRecDepth 20000 in
theorem dbetween4 (w : World) (A : Option Addr) (c : Nat) (all : List Tok) (fin : Int) (hcx : DCx w A c all fin) (N p : Nat) (ts : List (Nat × Tr)) (X : World) (h : DS w A c all fin (-1) N ts p X) :
    Calls Tryz.prog 42 #[.pointer (some ⟨w.heap.size, 0, none⟩), .int .i64 4] X (BetPost w A c all fin N ts p (signV 4 (all.drop p))) := by
  have hroom := hcx.ok.room
  have hle := h.le
  have HS := Lib.hid h
  clear h
  cases h0 : isM (all.drop p) [61, 61] with
  | true =>
    have HI0 := DS.isH hcx p ⟨#[61, 61]⟩ (b := true) h0
    have hsv : signV 4 (all.drop p) = 23 := by simp [signV, h0]
    rw [hsv]
    have hp : p < all.length := by
      rcases Nat.lt_or_ge p all.length with hp | hp
      · exact hp
      · rw [List.drop_eq_nil_of_le hp] at h0; cases h0
    have hw1 : IntKind.i64.wrap ((p : Int) + 1) = (p : Int) + 1 := IntWalk.i64_in _ (by omega)
    clear hsv hcx h0
    go_enter Tryz.func42, Tryz.ntmps42
    go_wp2_with (first | (go_at_call 39; (with_reducible refine (HI0.out _ _ _ HS.out).mono ?_); rintro e wn ⟨rfl, hs⟩; clear HS; have HS := Lib.hid hs; obtain ⟨x0, x1, x2, x3, f1, f3⟩ := hs.cells; clear hs))
    go_ret
    exact ⟨rfl, fun e => absurd e (by decide), fun _ => HS.out.inc hp⟩
  | false =>
    cases h1 : isM (all.drop p) [33, 61] with
    | true =>
      have HI0 := DS.isH hcx p ⟨#[61, 61]⟩ (b := false) h0
      have HI1 := DS.isH hcx p ⟨#[33, 61]⟩ (b := true) h1
      have hsv : signV 4 (all.drop p) = 24 := by simp [signV, h0, h1]
      rw [hsv]
      have hp : p < all.length := by
        rcases Nat.lt_or_ge p all.length with hp | hp
        · exact hp
        · rw [List.drop_eq_nil_of_le hp] at h1; cases h1
      have hw1 : IntKind.i64.wrap ((p : Int) + 1) = (p : Int) + 1 := IntWalk.i64_in _ (by omega)
      clear hsv hcx h0 h1
      go_enter Tryz.func42, Tryz.ntmps42
      go_wp2_with (first | (go_at_call 39; (with_reducible refine (HI0.out _ _ _ HS.out).mono ?_); rintro e wn ⟨rfl, hs⟩; clear HS; have HS := Lib.hid hs; obtain ⟨x0, x1, x2, x3, f1, f3⟩ := hs.cells; clear hs) | (go_at_call 39; (with_reducible refine (HI1.out _ _ _ HS.out).mono ?_); rintro e wn ⟨rfl, hs⟩; clear HS; have HS := Lib.hid hs; obtain ⟨x0, x1, x2, x3, f1, f3⟩ := hs.cells; clear hs))
      go_ret
      exact ⟨rfl, fun e => absurd e (by decide), fun _ => HS.out.inc hp⟩
    | false =>
      cases h2 : isM (all.drop p) [60] with
      | true =>
        have HI0 := DS.isH hcx p ⟨#[61, 61]⟩ (b := false) h0
        have HI1 := DS.isH hcx p ⟨#[33, 61]⟩ (b := false) h1
        have HI2 := DS.isH hcx p ⟨#[60]⟩ (b := true) h2
        have hsv : signV 4 (all.drop p) = 25 := by simp [signV, h0, h1, h2]
        rw [hsv]
        have hp : p < all.length := by
          rcases Nat.lt_or_ge p all.length with hp | hp
          · exact hp
          · rw [List.drop_eq_nil_of_le hp] at h2; cases h2
        have hw1 : IntKind.i64.wrap ((p : Int) + 1) = (p : Int) + 1 := IntWalk.i64_in _ (by omega)
        clear hsv hcx h0 h1 h2
        go_enter Tryz.func42, Tryz.ntmps42
        go_wp2_with (first | (go_at_call 39; (with_reducible refine (HI0.out _ _ _ HS.out).mono ?_); rintro e wn ⟨rfl, hs⟩; clear HS; have HS := Lib.hid hs; obtain ⟨x0, x1, x2, x3, f1, f3⟩ := hs.cells; clear hs) | (go_at_call 39; (with_reducible refine (HI1.out _ _ _ HS.out).mono ?_); rintro e wn ⟨rfl, hs⟩; clear HS; have HS := Lib.hid hs; obtain ⟨x0, x1, x2, x3, f1, f3⟩ := hs.cells; clear hs) | (go_at_call 39; (with_reducible refine (HI2.out _ _ _ HS.out).mono ?_); rintro e wn ⟨rfl, hs⟩; clear HS; have HS := Lib.hid hs; obtain ⟨x0, x1, x2, x3, f1, f3⟩ := hs.cells; clear hs))
        go_ret
        exact ⟨rfl, fun e => absurd e (by decide), fun _ => HS.out.inc hp⟩
      | false =>
        cases h3 : isM (all.drop p) [60, 61] with
        | true =>
          have HI0 := DS.isH hcx p ⟨#[61, 61]⟩ (b := false) h0
          have HI1 := DS.isH hcx p ⟨#[33, 61]⟩ (b := false) h1
          have HI2 := DS.isH hcx p ⟨#[60]⟩ (b := false) h2
          have HI3 := DS.isH hcx p ⟨#[60, 61]⟩ (b := true) h3
          have hsv : signV 4 (all.drop p) = 26 := by simp [signV, h0, h1, h2, h3]
          rw [hsv]
          have hp : p < all.length := by
            rcases Nat.lt_or_ge p all.length with hp | hp
            · exact hp
            · rw [List.drop_eq_nil_of_le hp] at h3; cases h3
          have hw1 : IntKind.i64.wrap ((p : Int) + 1) = (p : Int) + 1 := IntWalk.i64_in _ (by omega)
          clear hsv hcx h0 h1 h2 h3
          go_enter Tryz.func42, Tryz.ntmps42
          go_wp2_with (first | (go_at_call 39; (with_reducible refine (HI0.out _ _ _ HS.out).mono ?_); rintro e wn ⟨rfl, hs⟩; clear HS; have HS := Lib.hid hs; obtain ⟨x0, x1, x2, x3, f1, f3⟩ := hs.cells; clear hs) | (go_at_call 39; (with_reducible refine (HI1.out _ _ _ HS.out).mono ?_); rintro e wn ⟨rfl, hs⟩; clear HS; have HS := Lib.hid hs; obtain ⟨x0, x1, x2, x3, f1, f3⟩ := hs.cells; clear hs) | (go_at_call 39; (with_reducible refine (HI2.out _ _ _ HS.out).mono ?_); rintro e wn ⟨rfl, hs⟩; clear HS; have HS := Lib.hid hs; obtain ⟨x0, x1, x2, x3, f1, f3⟩ := hs.cells; clear hs) | (go_at_call 39; (with_reducible refine (HI3.out _ _ _ HS.out).mono ?_); rintro e wn ⟨rfl, hs⟩; clear HS; have HS := Lib.hid hs; obtain ⟨x0, x1, x2, x3, f1, f3⟩ := hs.cells; clear hs))
          go_ret
          exact ⟨rfl, fun e => absurd e (by decide), fun _ => HS.out.inc hp⟩
        | false =>
          have HI0 := DS.isH hcx p ⟨#[61, 61]⟩ (b := false) h0
          have HI1 := DS.isH hcx p ⟨#[33, 61]⟩ (b := false) h1
          have HI2 := DS.isH hcx p ⟨#[60]⟩ (b := false) h2
          have HI3 := DS.isH hcx p ⟨#[60, 61]⟩ (b := false) h3
          have hsv : signV 4 (all.drop p) = 0 := by simp [signV, h0, h1, h2, h3]
          rw [hsv]
          clear hsv hcx h0 h1 h2 h3
          go_enter Tryz.func42, Tryz.ntmps42
          go_wp2_with (first | (go_at_call 39; (with_reducible refine (HI0.out _ _ _ HS.out).mono ?_); rintro e wn ⟨rfl, hs⟩; clear HS; have HS := Lib.hid hs; obtain ⟨x0, x1, x2, x3, f1, f3⟩ := hs.cells; clear hs) | (go_at_call 39; (with_reducible refine (HI1.out _ _ _ HS.out).mono ?_); rintro e wn ⟨rfl, hs⟩; clear HS; have HS := Lib.hid hs; obtain ⟨x0, x1, x2, x3, f1, f3⟩ := hs.cells; clear hs) | (go_at_call 39; (with_reducible refine (HI2.out _ _ _ HS.out).mono ?_); rintro e wn ⟨rfl, hs⟩; clear HS; have HS := Lib.hid hs; obtain ⟨x0, x1, x2, x3, f1, f3⟩ := hs.cells; clear hs) | (go_at_call 39; (with_reducible refine (HI3.out _ _ _ HS.out).mono ?_); rintro e wn ⟨rfl, hs⟩; clear HS; have HS := Lib.hid hs; obtain ⟨x0, x1, x2, x3, f1, f3⟩ := hs.cells; clear hs))
          go_ret
          exact ⟨rfl, fun _ => HS.out, fun e => absurd rfl e⟩
set_option maxHeartbeats 3200000 in
set_option maxRecDepth 20000 in
theorem dbetween5 (w : World) (A : Option Addr) (c : Nat) (all : List Tok) (fin : Int) (hcx : DCx w A c all fin) (N p : Nat) (ts : List (Nat × Tr)) (X : World) (h : DS w A c all fin (-1) N ts p X) :
    Calls Tryz.prog 42 #[.pointer (some ⟨w.heap.size, 0, none⟩), .int .i64 5] X (BetPost w A c all fin N ts p (signV 5 (all.drop p))) := by
  have hroom := hcx.ok.room
  have hle := h.le
  have HS := Lib.hid h
  clear h
  cases h0 : isM (all.drop p) [43] with
  | true =>
    have HI0 := DS.isH hcx p ⟨#[43]⟩ (b := true) h0
    have hsv : signV 5 (all.drop p) = 20 := by simp [signV, h0]
    rw [hsv]
    have hp : p < all.length := by
      rcases Nat.lt_or_ge p all.length with hp | hp
      · exact hp
      · rw [List.drop_eq_nil_of_le hp] at h0; cases h0
    have hw1 : IntKind.i64.wrap ((p : Int) + 1) = (p : Int) + 1 := IntWalk.i64_in _ (by omega)
    clear hsv hcx h0
    go_enter Tryz.func42, Tryz.ntmps42
    go_wp2_with (first | (go_at_call 39; (with_reducible refine (HI0.out _ _ _ HS.out).mono ?_); rintro e wn ⟨rfl, hs⟩; clear HS; have HS := Lib.hid hs; obtain ⟨x0, x1, x2, x3, f1, f3⟩ := hs.cells; clear hs))
    go_ret
    exact ⟨rfl, fun e => absurd e (by decide), fun _ => HS.out.inc hp⟩
  | false =>
    cases h1 : isM (all.drop p) [45] with
    | true =>
      have HI0 := DS.isH hcx p ⟨#[43]⟩ (b := false) h0
      have HI1 := DS.isH hcx p ⟨#[45]⟩ (b := true) h1
      have hsv : signV 5 (all.drop p) = 21 := by simp [signV, h0, h1]
      rw [hsv]
      have hp : p < all.length := by
        rcases Nat.lt_or_ge p all.length with hp | hp
        · exact hp
        · rw [List.drop_eq_nil_of_le hp] at h1; cases h1
      have hw1 : IntKind.i64.wrap ((p : Int) + 1) = (p : Int) + 1 := IntWalk.i64_in _ (by omega)
      clear hsv hcx h0 h1
      go_enter Tryz.func42, Tryz.ntmps42
      go_wp2_with (first | (go_at_call 39; (with_reducible refine (HI0.out _ _ _ HS.out).mono ?_); rintro e wn ⟨rfl, hs⟩; clear HS; have HS := Lib.hid hs; obtain ⟨x0, x1, x2, x3, f1, f3⟩ := hs.cells; clear hs) | (go_at_call 39; (with_reducible refine (HI1.out _ _ _ HS.out).mono ?_); rintro e wn ⟨rfl, hs⟩; clear HS; have HS := Lib.hid hs; obtain ⟨x0, x1, x2, x3, f1, f3⟩ := hs.cells; clear hs))
      go_ret
      exact ⟨rfl, fun e => absurd e (by decide), fun _ => HS.out.inc hp⟩
    | false =>
      have HI0 := DS.isH hcx p ⟨#[43]⟩ (b := false) h0
      have HI1 := DS.isH hcx p ⟨#[45]⟩ (b := false) h1
      have hsv : signV 5 (all.drop p) = 0 := by simp [signV, h0, h1]
      rw [hsv]
      clear hsv hcx h0 h1
      go_enter Tryz.func42, Tryz.ntmps42
      go_wp2_with (first | (go_at_call 39; (with_reducible refine (HI0.out _ _ _ HS.out).mono ?_); rintro e wn ⟨rfl, hs⟩; clear HS; have HS := Lib.hid hs; obtain ⟨x0, x1, x2, x3, f1, f3⟩ := hs.cells; clear hs) | (go_at_call 39; (with_reducible refine (HI1.out _ _ _ HS.out).mono ?_); rintro e wn ⟨rfl, hs⟩; clear HS; have HS := Lib.hid hs; obtain ⟨x0, x1, x2, x3, f1, f3⟩ := hs.cells; clear hs))
      go_ret
      exact ⟨rfl, fun _ => HS.out, fun e => absurd rfl e⟩
set_option maxHeartbeats 3200000 in
set_option maxRecDepth 20000 in
theorem dbetween6 (w : World) (A : Option Addr) (c : Nat) (all : List Tok) (fin : Int) (hcx : DCx w A c all fin) (N p : Nat) (ts : List (Nat × Tr)) (X : World) (h : DS w A c all fin (-1) N ts p X) :
    Calls Tryz.prog 42 #[.pointer (some ⟨w.heap.size, 0, none⟩), .int .i64 6] X (BetPost w A c all fin N ts p (signV 6 (all.drop p))) := by
  have hroom := hcx.ok.room
  have hle := h.le
  have HS := Lib.hid h
  clear h
  cases h0 : isM (all.drop p) [42] with
  | true =>
    have HI0 := DS.isH hcx p ⟨#[42]⟩ (b := true) h0
    have hsv : signV 6 (all.drop p) = 22 := by simp [signV, h0]
    rw [hsv]
    have hp : p < all.length := by
      rcases Nat.lt_or_ge p all.length with hp | hp
      · exact hp
      · rw [List.drop_eq_nil_of_le hp] at h0; cases h0
    have hw1 : IntKind.i64.wrap ((p : Int) + 1) = (p : Int) + 1 := IntWalk.i64_in _ (by omega)
    clear hsv hcx h0
    go_enter Tryz.func42, Tryz.ntmps42
    go_wp2_with (first | (go_at_call 39; (with_reducible refine (HI0.out _ _ _ HS.out).mono ?_); rintro e wn ⟨rfl, hs⟩; clear HS; have HS := Lib.hid hs; obtain ⟨x0, x1, x2, x3, f1, f3⟩ := hs.cells; clear hs))
    go_ret
    exact ⟨rfl, fun e => absurd e (by decide), fun _ => HS.out.inc hp⟩
  | false =>
    have HI0 := DS.isH hcx p ⟨#[42]⟩ (b := false) h0
    have hsv : signV 6 (all.drop p) = 0 := by simp [signV, h0]
    rw [hsv]
    clear hsv hcx h0
    go_enter Tryz.func42, Tryz.ntmps42
    go_wp2_with (first | (go_at_call 39; (with_reducible refine (HI0.out _ _ _ HS.out).mono ?_); rintro e wn ⟨rfl, hs⟩; clear HS; have HS := Lib.hid hs; obtain ⟨x0, x1, x2, x3, f1, f3⟩ := hs.cells; clear hs))
    go_ret
    exact ⟨rfl, fun _ => HS.out, fun e => absurd rfl e⟩
end Go.Proofs.YtckfcpiedainfaaGreatDoor

/-
  WALKS over the document's reader: its state; is, stop.
  WALKS over the document's reader: stop, must, name.
  WALKS over the document's reader: name, add.
-/
import Derived.Test.YtckfcpiedainfaaGreatDoorZE30
namespace Go.Proofs.YtckfcpiedainfaaGreatDoor
open Go Go.RowKit Go.Sort
set_option linter.unusedVariables false
theorem scanT_place : ∀ (d p : Nat) (r : List UInt8) (l : List Tok), r.length ≤ d → scanT p r = (some l, 0) → ∀ t ∈ l, 0 ≤ t.place := by
  intro d
  induction d with
  | zero =>
    intro p r l hd h
    have : r = [] := List.length_eq_zero_iff.1 (by omega)
    subst this
    rw [scanT_nil] at h
    simp only [Prod.mk.injEq, Option.some.injEq, and_true] at h
    subst h
    simp
  | succ d ih =>
    intro p r l hd h
    rcases scanT_ways r with rfl | ⟨c, t, rfl, hc⟩ | ⟨c, t, k, n, rfl, hc, hk⟩ | ⟨c, t, n, rfl, hc, hk⟩
    · rw [scanT_nil] at h
      simp only [Prod.mk.injEq, Option.some.injEq, and_true] at h
      subst h
      simp
    · rw [scanT_blank hc] at h
      exact ih _ _ _ (by simp at hd; omega) h
    · have hl := lexT_len hk
      rw [scanT_tok hc hk] at h
      rcases hs : scanT (p + n) ((c :: t).drop n) with ⟨o, j⟩
      rw [hs] at h
      cases o with
      | none => simp [ahd] at h
      | some l' =>
        have := scanT_zero _ _ _ _ _ (Nat.le_refl _) hs
        subst this
        simp only [ahd, Prod.mk.injEq, Option.some.injEq, and_true] at h
        subst h
        have hdl : ((c :: t).drop n).length < (c :: t).length := by rw [List.length_drop]; have := hl; omega
        intro x hx
        rcases List.mem_cons.1 hx with rfl | hx
        · show (0 : Int) ≤ (p : Int); omega
        · exact ih _ _ _ (by omega) hs x hx
    · rw [scanT_bad hc hk] at h; simp at h
theorem toks_place {S : List UInt8} {l : List Tok} (h : scanR S = (l, 0, 0)) : ∀ t ∈ l, 0 ≤ t.place := by
  rcases scanR_cases S with ⟨_, hr⟩ | ⟨h4, m, hs, hr⟩ | ⟨_, n, _, hr⟩
  · rw [hr] at h; simp at h
  · rw [hr] at h
    simp only [Prod.mk.injEq, and_true] at h
    subst h
    exact scanT_place _ _ _ _ (Nat.le_refl _) hs
  · rw [hr] at h; simp at h
/-- what the document's reader was made of: at w, in the block behind it -/
structure DCx (w : World) (A : Option Addr) (c : Nat) (all : List Tok) (fin : Int) : Prop where
  own : ∃ B, OwnT w B (.slice A all.length c) all
  ok : ToksOk all
  pl : ∀ t ∈ all, 0 ≤ t.place
  fin : 0 ≤ fin
/-- the document's reader: how far it is, where it has stopped (-1: nowhere), the nodes that were made, and numbers of trees among them -/
structure DS (w : World) (A : Option Addr) (c : Nat) (all : List Tok) (fin bad : Int) (N : Nat) (ts : List (Nat × Tr)) (p : Nat) (X : World) : Prop where
  bel : Below w.heap.size w X
  le : p ≤ all.length
  md : ∃ (m : List (EN × Sl)) (Am : Option Addr) (cm : Nat), Blk X w.heap.size 61 #[.slice A all.length c, .int .i64 p, .int .i64 fin, .int .i64 bad, .slice Am m.length cm] ∧ GE (w.heap.size + 1) (.slice Am m.length cm) m X ∧ m.length + (all.length - p) ≤ N ∧ ∀ q ∈ ts, OneM (nodesOf m) q.1 q.2
section
variable {w X X' : World} {A : Option Addr} {c : Nat} {all : List Tok} {fin bad : Int} {N p : Nat} {ts : List (Nat × Tr)}
theorem DS.after (h : DS w A c all fin bad N ts p X) (hb : Below X.heap.size X X') : DS w A c all fin bad N ts p X' := by
  obtain ⟨h1, h2, m, Am, cm, h3, h4, h5, h6⟩ := h
  exact ⟨h1.trans (hb.mono h1.size), h2, m, Am, cm, h3.after hb, h4.after enOK hb, h5, h6⟩
theorem DS.cells (h : DS w A c all fin bad N ts p X) : X.cell? ⟨w.heap.size, 0, none⟩ = some (.slice A all.length c) ∧ X.cell? ⟨w.heap.size, 1, none⟩ = some (.int .i64 p) ∧ X.cell? ⟨w.heap.size, 2, none⟩ = some (.int .i64 fin) ∧ X.cell? ⟨w.heap.size, 3, none⟩ = some (.int .i64 bad) ∧ X.frozen? ⟨w.heap.size, 1, none⟩ = false ∧ X.frozen? ⟨w.heap.size, 3, none⟩ = false := by
  obtain ⟨h1, h2, m, Am, cm, h3, h4, h5, h6⟩ := h
  exact ⟨(h3.cell 0).trans rfl, (h3.cell 1).trans rfl, (h3.cell 2).trans rfl, (h3.cell 3).trans rfl, h3.frozen 1, h3.frozen 3⟩
theorem DS.less (h : DS w A c all fin bad N ts p X) : DS w A c all fin bad N [] p X := by
  obtain ⟨h1, h2, m, Am, cm, h3, h4, h5, h6⟩ := h
  exact ⟨h1, h2, m, Am, cm, h3, h4, h5, by simp⟩
theorem DS.tail {q : Nat × Tr} (h : DS w A c all fin bad N (q :: ts) p X) : DS w A c all fin bad N ts p X := by
  obtain ⟨h1, h2, m, Am, cm, h3, h4, h5, h6⟩ := h
  exact ⟨h1, h2, m, Am, cm, h3, h4, h5, fun x hx => h6 x (List.mem_cons_of_mem _ hx)⟩
theorem GE.setboxR {B g i : Nat} {ov : Value} {l : List (EN × Sl)} {X : World} {cs : Array Value} (h : GE B ov l X) (hg : Blk X g 61 cs) (u : Value) : GE B ov l (X.setCell ⟨g, i, none⟩ u) :=
  ⟨⟨own_other h.own hg (by decide) i u, fun x hx => ⟨(h.leaf x hx).kn, own_other (h.leaf x hx).k hg (by decide) i u⟩⟩, List.Pairwise.imp (fun ⟨k, h0, h1, h2⟩ => ⟨k, h0, h1, h2.kn, own_other h2.k hg (by decide) i u⟩) h.ap⟩
/-- it steps on -/
theorem DS.inc (h : DS w A c all fin bad N ts p X) (hp : p < all.length) : DS w A c all fin bad (N - 1) ts (p + 1) (X.setCell ⟨w.heap.size, 1, none⟩ (.int .i64 ((p : Int) + 1))) := by
  obtain ⟨h1, h2, m, Am, cm, h3, h4, h5, h6⟩ := h
  refine ⟨h1.setCell (p := ⟨w.heap.size, 1, none⟩) (Nat.le_refl _) _, hp, m, Am, cm, ?_, GE.setboxR h4 h3 _, by omega, h6⟩
  have := h3.set_ 1 (.int .i64 ((p : Int) + 1))
  simpa using this
theorem DS.pos (h : DS w A c all fin bad N ts p X) (hp : p < all.length) : 1 ≤ N := by
  obtain ⟨h1, h2, m, Am, cm, h3, h4, h5, h6⟩ := h
  omega
/-- it stops -/
theorem DS.stop (h : DS w A c all fin bad N ts p X) (q : Int) : DS w A c all fin q N ts p (X.setCell ⟨w.heap.size, 3, none⟩ (.int .i64 q)) := by
  obtain ⟨h1, h2, m, Am, cm, h3, h4, h5, h6⟩ := h
  refine ⟨h1.setCell (p := ⟨w.heap.size, 3, none⟩) (Nat.le_refl _) _, h2, m, Am, cm, ?_, GE.setboxR h4 h3 _, by omega, h6⟩
  have := h3.set_ 3 (.int .i64 q)
  simpa using this
/-- the next token, where it lies -/
theorem DCx.tok (hc : DCx w A c all fin) (hb : Below w.heap.size w X) {t : Tok} (ht : all[p]? = some t) :
    ∃ b, A = some ⟨b, 0, none⟩ ∧ X.cell? ⟨b, p * 4, none⟩ = some (.int .i64 t.kind) ∧ X.cell? ⟨b, p * 4 + 1, none⟩ = some (.string t.text) ∧ X.cell? ⟨b, p * 4 + 2, none⟩ = some (.int .i64 t.int) ∧ X.cell? ⟨b, p * 4 + 3, none⟩ = some (.int .i64 t.place) := by
  obtain ⟨B, ho⟩ := hc.own
  have hp := (List.getElem?_eq_some_iff.1 ht).1
  have hr : Row w B w.heap.size 4 A all.length c (toksCells all) := own_row ho
  obtain ⟨b, o, e, h1, h2, hcc⟩ := hr.at_ (by omega)
  have ho' := ho
  rcases ho'.2 with ⟨e0, hn⟩ | ⟨b', cap, cur, e', _⟩
  · rw [e] at e0; cases e0
  · have e2 : A = some ⟨b', 0, none⟩ := by injection e'
    subst e2
    injection e with e; injection e with e3 e4; subst e3; subst e4
    have hk : ∀ j u, j < 4 → (tokCells t)[j]? = some u → X.cell? ⟨b', p * 4 + j, none⟩ = some u := fun j u hj hu => by
      have := hcc (p * 4 + j) u (by unfold toksCells; rw [flatN_get tokCells_len all p t ht j hj]; exact hu)
      exact (hb.cell (p := ⟨b', p * 4 + j, none⟩) h2).trans (by simpa using this)
    exact ⟨b', rfl, hk 0 _ (by decide) rfl, hk 1 _ (by decide) rfl, hk 2 _ (by decide) rfl, hk 3 _ (by decide) rfl⟩
end
set_option maxHeartbeats 1600000 in
set_option maxRecDepth 20000 in
/-- where it has stopped, nothing is next -/
theorem disB_any (w : World) (A : Option Addr) (c : Nat) (all : List Tok) (fin bad : Int) (N p : Nat) (ts : List (Nat × Tr)) (X : World) (h : DS w A c all fin bad N ts p X) (hbad : 0 ≤ bad) (s : ByteArray) :
    Calls Tryz.prog 39 #[.pointer (some ⟨w.heap.size, 0, none⟩), .string s] X (Ret X (.bool false)) := by
  obtain ⟨x0, x1, x2, x3, f1, f3⟩ := h.cells
  have q1 : decide (bad < 0) = false := decide_eq_false (by omega)
  clear h x0 x1 x2 f1 f3
  go_enter Tryz.func39, Tryz.ntmps39
  go_wp2_with fail
  go_quiet (fail)
  go_wp2_with fail
  go_ret
  exact ⟨rfl, below_drewN (Below.refl _ _) _⟩
set_option maxHeartbeats 3200000 in
set_option maxRecDepth 20000 in
theorem dis_any (w : World) (A : Option Addr) (c : Nat) (all : List Tok) (fin : Int) (hcx : DCx w A c all fin) (N p : Nat) (ts : List (Nat × Tr)) (X : World) (h : DS w A c all fin (-1) N ts p X) (s : ByteArray) :
    Calls Tryz.prog 39 #[.pointer (some ⟨w.heap.size, 0, none⟩), .string s] X (Ret X (.bool (isM (all.drop p) s.data.toList))) := by
  obtain ⟨x0, x1, x2, x3, f1, f3⟩ := h.cells
  have hroom := hcx.ok.room
  have hle := h.le
  by_cases hp : p < all.length
  · have ht : all[p]? = some all[p] := List.getElem?_eq_getElem hp
    obtain ⟨b, rfl, d0, d1, d2, d3⟩ := hcx.tok h.bel ht
    rw [drop_head ht]
    have q1 : decide ((p : Int) < (all.length : Int)) = true := decide_eq_true (by omega)
    have hix : p < all.length := hp
    clear h hcx ht x2 f1 f3 d2 d3
    by_cases h4 : 4 ≤ all[p].kind
    · have q2 : decide ((4 : Int) ≤ all[p].kind) = true := decide_eq_true h4
      rw [isM_high h4, ← ByteArray.toList_eq, ← ByteArray.toList_eq]
      clear h4
      go_enter Tryz.func39, Tryz.ntmps39
      go_wp2_with fail
      go_quiet (fail)
      go_wp2_with fail
      go_ret
      exact ⟨rfl, below_drewN (Below.refl _ _) _⟩
    · have q2 : decide ((4 : Int) ≤ all[p].kind) = false := decide_eq_false h4
      rw [isM_low h4]
      clear h4 d1
      go_enter Tryz.func39, Tryz.ntmps39
      go_wp2_with fail
      go_quiet (fail)
      go_wp2_with fail
      go_ret
      exact ⟨rfl, below_drewN (Below.refl _ _) _⟩
  · rw [drop_end hp]
    have q1 : decide ((p : Int) < (all.length : Int)) = false := decide_eq_false (by omega)
    clear h hcx x2 f1 f3
    go_enter Tryz.func39, Tryz.ntmps39
    go_wp2_with fail
    go_quiet (fail)
    go_wp2_with fail
    go_ret
    exact ⟨rfl, below_drewN (Below.refl _ _) _⟩
end Go.Proofs.YtckfcpiedainfaaGreatDoor
namespace Go.Proofs.YtckfcpiedainfaaGreatDoor
open Go Go.RowKit Go.Sort
set_option linter.unusedVariables false
theorem place_nn {w : World} {A : Option Addr} {c : Nat} {all : List Tok} {fin : Int} (h : DCx w A c all fin) (p : Nat) : 0 ≤ placeV (all.drop p) fin := by
  cases hl : all.drop p with
  | nil => exact h.fin
  | cons t r => exact h.pl t (List.mem_of_mem_drop (by rw [hl]; exact List.mem_cons_self))
set_option maxHeartbeats 1600000 in
set_option maxRecDepth 20000 in
theorem dstopB_any (w : World) (A : Option Addr) (c : Nat) (all : List Tok) (fin bad : Int) (N p : Nat) (ts : List (Nat × Tr)) (X : World) (h : DS w A c all fin bad N ts p X) (hbad : 0 ≤ bad) :
    Calls Tryz.prog 22 #[.pointer (some ⟨w.heap.size, 0, none⟩)] X (Ret X (.int .i64 0)) := by
  obtain ⟨x0, x1, x2, x3, f1, f3⟩ := h.cells
  have q1 : decide (bad < 0) = false := decide_eq_false (by omega)
  clear h x0 x1 x2 f1 f3
  go_enter Tryz.func22, Tryz.ntmps22
  go_wp2_with fail
  go_ret
  exact ⟨rfl, Below.refl _ _⟩
set_option maxHeartbeats 3200000 in
set_option maxRecDepth 20000 in
theorem dstop_any (w : World) (A : Option Addr) (c : Nat) (all : List Tok) (fin : Int) (hcx : DCx w A c all fin) (N p : Nat) (ts : List (Nat × Tr)) (X : World) (h : DS w A c all fin (-1) N ts p X) :
    Calls Tryz.prog 22 #[.pointer (some ⟨w.heap.size, 0, none⟩)] X (fun e X' => e = .returned (.int .i64 0) ∧ DS w A c all fin (placeV (all.drop p) fin) N ts p X') := by
  obtain ⟨x0, x1, x2, x3, f1, f3⟩ := h.cells
  have hroom := hcx.ok.room
  have hle := h.le
  have HS1 := Lib.hid (h.stop fin)
  by_cases hp : p < all.length
  · have ht : all[p]? = some all[p] := List.getElem?_eq_getElem hp
    have HX := Lib.hid hcx
    rw [drop_head ht]
    have hK : placeV (all[p] :: all.drop (p + 1)) fin = all[p].place := rfl
    rw [hK]
    have q1 : decide ((p : Int) < (all.length : Int)) = true := decide_eq_true (by omega)
    have hix : p < all.length := hp
    have HT := Lib.hid ht
    clear h hcx ht hK
    go_enter Tryz.func22, Tryz.ntmps22
    go_upto_region 3 with (fail)
    clear x0 x1 x2 x3 f1 f3
    generalize X.setCell ⟨w.heap.size, 3, none⟩ (.int .i64 fin) = X1 at HS1 ⊢
    obtain ⟨x0, x1, x2, x3, f1, f3⟩ := HS1.out.cells
    go_quiet (fail)
    have HS2 := Lib.hid (HS1.out.after (below_drewN (Below.refl _ _) nq))
    clear x0 x1 x2 x3 f1 f3
    generalize X1.drewN nq = X2 at HS2 ⊢
    obtain ⟨x0, x1, x2, x3, f1, f3⟩ := HS2.out.cells
    obtain ⟨b, rfl, d0, d1, d2, d3⟩ := HX.out.tok HS2.out.bel HT.out
    have HS3 := Lib.hid ((HS2.out.stop all[p].place).after (drew1_below _))
    clear d0 d1 d2
    go_wp2_with fail
    go_still_tail 14, (by kernel_rfl)
    go_wp2_with fail
    go_ret
    exact ⟨rfl, HS3.out⟩
  · rw [drop_end hp]
    have q1 : decide ((p : Int) < (all.length : Int)) = false := decide_eq_false (by omega)
    clear h hcx
    go_enter Tryz.func22, Tryz.ntmps22
    go_upto_region 3 with (fail)
    clear x0 x1 x2 x3 f1 f3
    generalize X.setCell ⟨w.heap.size, 3, none⟩ (.int .i64 fin) = X1 at HS1 ⊢
    obtain ⟨x0, x1, x2, x3, f1, f3⟩ := HS1.out.cells
    go_quiet (fail)
    have HS2 := Lib.hid (HS1.out.after (below_drewN (Below.refl _ _) nq))
    clear x0 x1 x2 x3 f1 f3
    generalize X1.drewN nq = X2 at HS2 ⊢
    go_wp2_with fail
    go_ret
    exact ⟨rfl, HS2.out⟩
/-- it has stopped -/
def DBad (w : World) (A : Option Addr) (c : Nat) (all : List Tok) (fin q : Int) (N : Nat) (X : World) : Prop := 0 ≤ q ∧ ∃ p, DS w A c all fin q N [] p X
theorem DBad.after {w X X' : World} {A : Option Addr} {c : Nat} {all : List Tok} {fin q : Int} {N : Nat} (h : DBad w A c all fin q N X) (hb : Below X.heap.size X X') : DBad w A c all fin q N X' := ⟨h.1, h.2.elim fun p hp => ⟨p, hp.after hb⟩⟩
set_option maxHeartbeats 1600000 in
set_option maxRecDepth 20000 in
theorem dmustB_any (w : World) (A : Option Addr) (c : Nat) (all : List Tok) (fin q : Int) (N : Nat) (X : World) (h : DBad w A c all fin q N X) (s : ByteArray) :
    Calls Tryz.prog 84 #[.pointer (some ⟨w.heap.size, 0, none⟩), .string s] X (fun e X' => e = .returned (.tuple #[]) ∧ DBad w A c all fin q N X') := by
  obtain ⟨h0, p, hS⟩ := h
  have HI := Lib.hid (disB_any w A c all fin q N p [] X hS h0 s)
  have HT : Hid (∀ Y, Below X.heap.size X Y → Calls Tryz.prog 22 #[.pointer (some ⟨w.heap.size, 0, none⟩)] Y (Ret Y (.int .i64 0))) := Lib.hid fun Y hY => dstopB_any w A c all fin q N p [] Y (hS.after hY) h0
  have HS := Lib.hid hS
  clear hS
  go_enter Tryz.func84, Tryz.ntmps84
  go_wp2_with (first | (go_at_call 39; (with_reducible refine HI.out.mono ?_); rintro e w1 ⟨rfl, hb1⟩; have HB1 := Lib.hid hb1; clear hb1) | (go_at_call 22; (with_reducible refine (HT.out _ HB1.out).mono ?_); rintro e w2 ⟨rfl, hb2⟩; have HB2 := Lib.hid (HB1.out.trans (hb2.mono HB1.out.size)); clear hb2))
  (try simp only [Exit.inBlock, Exit.then])
  refine bodyPost_end (results_none (by kernel_rfl) _ _ _) rfl ?_
  exact ⟨rfl, h0, p, HS.out.after HB2.out⟩
set_option maxHeartbeats 1600000 in
set_option maxRecDepth 20000 in
theorem dmustNo_any (w : World) (A : Option Addr) (c : Nat) (all : List Tok) (fin : Int) (hcx : DCx w A c all fin) (N p : Nat) (ts : List (Nat × Tr)) (X : World) (h : DS w A c all fin (-1) N ts p X) (s : ByteArray) (hm : isM (all.drop p) s.data.toList = false) :
    Calls Tryz.prog 84 #[.pointer (some ⟨w.heap.size, 0, none⟩), .string s] X (fun e X' => e = .returned (.tuple #[]) ∧ DBad w A c all fin (placeV (all.drop p) fin) N X') := by
  have HI := Lib.hid (dis_any w A c all fin hcx N p ts X h s)
  rw [hm] at HI
  have HT : Hid (∀ Y, Below X.heap.size X Y → Calls Tryz.prog 22 #[.pointer (some ⟨w.heap.size, 0, none⟩)] Y (fun e X' => e = .returned (.int .i64 0) ∧ DS w A c all fin (placeV (all.drop p) fin) N ts p X')) := Lib.hid fun Y hY => dstop_any w A c all fin hcx N p ts Y (h.after hY)
  have h0 := place_nn hcx p
  clear h hm
  go_enter Tryz.func84, Tryz.ntmps84
  go_wp2_with (first | (go_at_call 39; (with_reducible refine HI.out.mono ?_); rintro e w1 ⟨rfl, hb1⟩; have HB1 := Lib.hid hb1; clear hb1) | (go_at_call 22; (with_reducible refine (HT.out _ HB1.out).mono ?_); rintro e w2 ⟨rfl, hs2⟩; have HS2 := Lib.hid hs2; clear hs2))
  (try simp only [Exit.inBlock, Exit.then])
  refine bodyPost_end (results_none (by kernel_rfl) _ _ _) rfl ?_
  exact ⟨rfl, h0, p, HS2.out.less⟩
set_option maxHeartbeats 1600000 in
set_option maxRecDepth 20000 in
theorem dmustYes_any (w : World) (A : Option Addr) (c : Nat) (all : List Tok) (fin : Int) (hcx : DCx w A c all fin) (N p : Nat) (ts : List (Nat × Tr)) (X : World) (h : DS w A c all fin (-1) N ts p X) (s : ByteArray) (hm : isM (all.drop p) s.data.toList = true) (hp : p < all.length) :
    Calls Tryz.prog 84 #[.pointer (some ⟨w.heap.size, 0, none⟩), .string s] X (fun e X' => e = .returned (.tuple #[]) ∧ DS w A c all fin (-1) (N - 1) ts (p + 1) X') := by
  have HI := Lib.hid (dis_any w A c all fin hcx N p ts X h s)
  rw [hm] at HI
  have hroom := hcx.ok.room
  have hw1 : IntKind.i64.wrap ((p : Int) + 1) = (p : Int) + 1 := IntWalk.i64_in _ (by omega)
  have HS := Lib.hid h
  clear h hm
  go_enter Tryz.func84, Tryz.ntmps84
  go_wp2_with (go_at_call 39; (with_reducible refine HI.out.mono ?_); rintro e w1 ⟨rfl, hb1⟩; have HS1 := Lib.hid (HS.out.after hb1); obtain ⟨x0, x1, x2, x3, f1, f3⟩ := HS1.out.cells; clear hb1)
  refine ⟨rfl, .tuple #[], by simp [results, Tryz.results84], rfl, HS1.out.inc hp⟩
end Go.Proofs.YtckfcpiedainfaaGreatDoor
namespace Go.Proofs.YtckfcpiedainfaaGreatDoor
open Go Go.RowKit Go.Sort
set_option linter.unusedVariables false
set_option maxHeartbeats 3200000 in
set_option maxRecDepth 20000 in
theorem dnameNo_any (w : World) (A : Option Addr) (c : Nat) (all : List Tok) (fin : Int) (hcx : DCx w A c all fin) (N p : Nat) (ts : List (Nat × Tr)) (X : World) (h : DS w A c all fin (-1) N ts p X) (hm : hasK (all.drop p) 3 = false) :
    Calls Tryz.prog 66 #[.pointer (some ⟨w.heap.size, 0, none⟩)] X (fun e X' => e = .returned (.string { data := #[] }) ∧ DBad w A c all fin (placeV (all.drop p) fin) N X') := by
  have HT : Hid (∀ Y, Below X.heap.size X Y → Calls Tryz.prog 22 #[.pointer (some ⟨w.heap.size, 0, none⟩)] Y (fun e X' => e = .returned (.int .i64 0) ∧ DS w A c all fin (placeV (all.drop p) fin) N ts p X')) := Lib.hid fun Y hY => dstop_any w A c all fin hcx N p ts Y (h.after hY)
  have h0 := place_nn hcx p
  obtain ⟨x0, x1, x2, x3, f1, f3⟩ := h.cells
  have hroom := hcx.ok.room
  have hle := h.le
  by_cases hp : p < all.length
  · have ht : all[p]? = some all[p] := List.getElem?_eq_getElem hp
    obtain ⟨b, rfl, d0, d1, d2, d3⟩ := hcx.tok h.bel ht
    rw [drop_head ht] at hm
    have q1 : decide ((p : Int) < (all.length : Int)) = true := decide_eq_true (by omega)
    have q2 : (all[p].kind == 3) = false := hm
    have hix : p < all.length := hp
    clear h hcx ht x2 f1 f3 d1 d2 d3 hm
    go_enter Tryz.func66, Tryz.ntmps66
    go_wp2_with fail
    go_quiet (fail)
    have HBq : Hid (Below X.heap.size X (X.drewN nq)) := Lib.hid (below_drewN (Below.refl _ _) nq)
    clear x0 x1 x3 d0
    generalize X.drewN nq = X1 at HBq ⊢
    go_wp2_with (go_at_call 22; (with_reducible refine (HT.out _ HBq.out).mono ?_); rintro e w2 ⟨rfl, hs2⟩; have HS2 := Lib.hid hs2; clear hs2)
    go_ret
    exact ⟨rfl, h0, p, HS2.out.less⟩
  · have q1 : decide ((p : Int) < (all.length : Int)) = false := decide_eq_false (by omega)
    clear h hcx x2 f1 f3 hm
    go_enter Tryz.func66, Tryz.ntmps66
    go_wp2_with fail
    go_quiet (fail)
    have HBq : Hid (Below X.heap.size X (X.drewN nq)) := Lib.hid (below_drewN (Below.refl _ _) nq)
    clear x0 x1 x3
    generalize X.drewN nq = X1 at HBq ⊢
    go_wp2_with (go_at_call 22; (with_reducible refine (HT.out _ HBq.out).mono ?_); rintro e w2 ⟨rfl, hs2⟩; have HS2 := Lib.hid hs2; clear hs2)
    go_ret
    exact ⟨rfl, h0, p, HS2.out.less⟩
set_option maxHeartbeats 3200000 in
set_option maxRecDepth 20000 in
theorem dnameYes_any (w : World) (A : Option Addr) (c : Nat) (all : List Tok) (fin : Int) (hcx : DCx w A c all fin) (N p : Nat) (ts : List (Nat × Tr)) (X : World) (h : DS w A c all fin (-1) N ts p X) (t : Tok) (r : List Tok) (hl : all.drop p = t :: r) (hk : t.kind = 3) :
    Calls Tryz.prog 66 #[.pointer (some ⟨w.heap.size, 0, none⟩)] X (fun e X' => e = .returned (.string t.text) ∧ DS w A c all fin (-1) (N - 1) ts (p + 1) X') := by
  obtain ⟨x0, x1, x2, x3, f1, f3⟩ := h.cells
  have hroom := hcx.ok.room
  have hp : p < all.length := by
    rcases Nat.lt_or_ge p all.length with hp | hp
    · exact hp
    · rw [List.drop_eq_nil_of_le hp] at hl; cases hl
  have ht : all[p]? = some t := by
    have := drop_head (List.getElem?_eq_getElem hp)
    rw [hl] at this
    injection this with h1 _
    rw [h1]; exact List.getElem?_eq_getElem hp
  have HT := Lib.hid ht
  have HX := Lib.hid hcx
  have HS := Lib.hid h
  obtain ⟨b, rfl, d0, d1, d2, d3⟩ := hcx.tok h.bel ht
  have q1 : decide ((p : Int) < (all.length : Int)) = true := decide_eq_true (by omega)
  have q2 : (t.kind == 3) = true := by rw [hk]; rfl
  have hix : p < all.length := hp
  have hw1 : IntKind.i64.wrap ((p : Int) + 1) = (p : Int) + 1 := IntWalk.i64_in _ (by omega)
  have hw2 : IntKind.i64.wrap ((p : Int) + 1 - 1) = (p : Int) := by rw [IntWalk.i64_in _ (by omega)]; omega
  have hw3 : IntKind.i64.wrap (p : Int) = (p : Int) := IntWalk.i64_in _ (by omega)
  clear h hcx ht x2 f1 f3 d1 d2 d3 hl hk
  go_enter Tryz.func66, Tryz.ntmps66
  go_wp2_with fail
  go_quiet (fail)
  have HS1 := Lib.hid (HS.out.after (below_drewN (Below.refl _ _) nq))
  clear x0 x1 x3 d0
  generalize X.drewN nq = X1 at HS1 ⊢
  obtain ⟨x0, x1, x2, x3, f1, f3⟩ := HS1.out.cells
  have HS2 := Lib.hid (HS1.out.inc hp)
  go_upto_region 3 with (fail)
  clear x0 x1 x2 x3 f1 f3
  generalize X1.setCell ⟨w.heap.size, 1, none⟩ (.int .i64 ((p : Int) + 1)) = X2 at HS2 ⊢
  obtain ⟨x0, x1, x2, x3, f1, f3⟩ := HS2.out.cells
  obtain ⟨b2, e2, d0, d1, d2, d3⟩ := HX.out.tok HS2.out.bel HT.out
  injection e2 with e2
  injection e2 with e2
  subst e2
  have x1' : X2.cell? ⟨w.heap.size, 1, none⟩ = some (.int .i64 ((p : Int) + 1)) := by rw [x1]; simp
  clear x1 x2 x3 f1 f3 d0 d2 d3
  go_quiet (fail)
  have HS3 := Lib.hid (HS2.out.after (below_drewN (Below.refl _ _) nq))
  clear x0 x1' d1
  generalize X2.drewN nq = X3 at HS3 ⊢
  go_wp2_with fail
  go_ret
  exact ⟨rfl, HS3.out⟩
end Go.Proofs.YtckfcpiedainfaaGreatDoor

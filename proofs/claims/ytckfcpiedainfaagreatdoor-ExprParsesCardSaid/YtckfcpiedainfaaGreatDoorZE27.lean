/-
  WALKS over package expr's reader: prim, all levels, whole.
  WALKS over package expr's reader: whole.
  WALKS over the document's answers for layer 8: Twin.
-/
import Derived.Test.YtckfcpiedainfaaGreatDoorZE26
namespace Go.Proofs.YtckfcpiedainfaaGreatDoor
open Go Go.RowKit Go.Sort
set_option linter.unusedVariables false
theorem primV_cons (rd : Md → List Tok → Rd) (t : Tok) (r : List Tok) (h1 : ¬ t.kind = 1) (h2 : ¬ t.kind = 2) (h3 : ¬ t.kind = 3) : primV rd (t :: r) =
    if isM (t :: r) [45] then (match r with
      | u :: r2 => if u.kind = 1 then .ok (.leaf 1 ByteArray.empty (-u.int), r2) else .error r
      | [] => .error r)
    else if isM (t :: r) [40] then untilV rd r [41]
    else if atomV (t :: r) ≠ 0 then .ok (.leaf (atomV (t :: r)) ByteArray.empty 0, r)
    else if isM (t :: r) [105, 102] then bindR (untilV rd r [116, 104, 101, 110]) fun a => bindR (untilV rd a.2 [101, 108, 115, 101]) fun b => bindR (untilV rd b.2 [101, 110, 100]) fun c => .ok (⟨30, ByteArray.empty, 0, row3 a.1 b.1 c.1⟩, c.2)
    else if callV (t :: r) ≠ 0 then bindR (mustV r [40]) fun r2 => bindR (untilV rd r2 [41]) fun a => .ok (⟨callV (t :: r), ByteArray.empty, 0, row1 a.1⟩, a.2)
    else if loopV (t :: r) ≠ 0 then bindR (nameV r) fun x => bindR (mustV x.2 [105, 110]) fun r2 => bindR (untilV rd r2 [58]) fun a => bindR (untilV rd a.2 [101, 110, 100]) fun b => .ok (⟨loopV (t :: r), x.1, 0, row2 a.1 b.1⟩, b.2)
    else .error (t :: r) := (if_neg h1).trans ((if_neg h2).trans (if_neg h3))
theorem isM_one {l : List Tok} {a b : List UInt8} (h : isM l a = true) (hne : a ≠ b) : isM l b = false := by
  cases l with
  | nil => rfl
  | cons t r =>
    unfold isM at h ⊢
    dsimp only at h ⊢
    simp only [Bool.and_eq_true, decide_eq_true_eq, beq_iff_eq] at h
    rw [h.2]
    simp [hne]
theorem named_loop : ∀ k : Nat, k < 35 → 31 ≤ k → namedB (k : Int) = true := by decide +kernel
theorem prim_any (w : World) (g c p : Nat) (A : Option Addr) (all : List Tok) (fin : Int) (h : RdC w g A c all fin p) (hint : ∀ t ∈ all, -9223372036854775807 ≤ t.int ∧ t.int ≤ 9223372036854775807) (HO : LvF g A c all fin 32 1 (p + 1)) :
    Calls Tryz.prog 133 #[.pointer (some ⟨g, 0, none⟩)] w (RPost w g A c all fin (rdX (.lv 8) (all.drop p))) := by
  rw [prim_eq]
  have htx := txt_drop h.rd.txt p
  have hkd : ∀ t ∈ all.drop p, 1 ≤ t.kind ∧ t.kind ≤ 5 := fun t ht => h.rd.kinds t (List.mem_of_mem_drop ht)
  have hin : ∀ t ∈ all.drop (p + 1), -9223372036854775807 ≤ t.int ∧ t.int ≤ 9223372036854775807 := fun t ht => hint t (List.mem_of_mem_drop ht)
  have hroom := h.rd.room
  cases hl : all.drop p with
  | nil =>
    have e : primV rdX [] = .error (all.drop p) := by rw [hl]; rfl
    rw [e]
    exact prim_low w g c p A all fin h (by rw [hl]; rfl) (by rw [hl]; rfl) (by rw [hl]; rfl) _ (.inr (.inr (.inr ⟨by rw [hl]; rfl, by rw [hl]; rfl, by rw [hl]; rfl, rfl⟩)))
  | cons t r =>
    have hr : r = all.drop (p + 1) := by rw [← drop_one, hl]; rfl
    have hp : p < all.length := by
      rcases Nat.lt_or_ge p all.length with hp | hp
      · exact hp
      · rw [List.drop_eq_nil_of_le hp] at hl; cases hl
    have hk := hkd t (by rw [hl]; exact List.mem_cons_self)
    have low : ¬ 4 ≤ t.kind → signK 8 (all.drop p) = none ∧ isM (all.drop p) [40] = false ∧ isM (all.drop p) [45] = false := fun hh => by
      rw [hl]; exact ⟨signK_low hh, isM_low hh _, isM_low hh _⟩
    by_cases h1 : t.kind = 1
    · obtain ⟨a1, a2, a3⟩ := low (by omega)
      have e : primV rdX (t :: r) = .ok (.leaf 1 ByteArray.empty t.int, r) := if_pos h1
      rw [e]
      exact prim_low w g c p A all fin h a1 a2 a3 _ (.inl ⟨t, r, hl, h1, by rw [hr]⟩)
    by_cases h2 : t.kind = 2
    · obtain ⟨a1, a2, a3⟩ := low (by omega)
      have e : primV rdX (t :: r) = .ok (.leaf 2 t.text 0, r) := (if_neg h1).trans (if_pos h2)
      rw [e]
      exact prim_low w g c p A all fin h a1 a2 a3 _ (.inr (.inl ⟨t, r, hl, h2, by rw [hr]⟩))
    by_cases h3 : t.kind = 3
    · obtain ⟨a1, a2, a3⟩ := low (by omega)
      have e : primV rdX (t :: r) = .ok (.leaf 7 t.text 0, r) := (if_neg h1).trans ((if_neg h2).trans (if_pos h3))
      rw [e]
      exact prim_low w g c p A all fin h a1 a2 a3 _ (.inr (.inr (.inl ⟨t, r, hl, h3, by rw [hr]⟩)))
    rw [primV_cons rdX t r h1 h2 h3]
    have S8 := sign_prim htx
    rw [← hl]
    cases hs : signK 8 (all.drop p) with
    | none =>
      rw [hs] at S8
      obtain ⟨b1, b2, b3, b4⟩ : atomV (all.drop p) = 0 ∧ isM (all.drop p) [105, 102] = false ∧ callV (all.drop p) = 0 ∧ loopV (all.drop p) = 0 := by
        cases S8 with
        | none b1 b2 b3 b4 => exact ⟨b1, b2, b3, b4⟩
      cases hm : isM (all.drop p) [45] with
      | true =>
        rw [if_pos rfl]
        refine prim_minus w g c p A all fin h hs (isM_one hm (by decide)) hm hp _ ?_
        rw [hr] at *
        cases hq : all.drop (p + 1) with
        | nil => exact .inr ⟨rfl, rfl⟩
        | cons u r2 =>
          have hr2 : r2 = all.drop (p + 1 + 1) := by rw [← drop_one, hq]; rfl
          by_cases hu : u.kind = 1
          · refine .inl ⟨u, r2, rfl, hu, hin u (by rw [hq]; exact List.mem_cons_self), ?_⟩
            show (if u.kind = 1 then _ else _) = _
            rw [if_pos hu, hr2]
          · refine .inr ⟨by rw [hasK_cons]; simpa using hu, ?_⟩
            show (if u.kind = 1 then _ else _) = _
            rw [if_neg hu]
      | false =>
        rw [if_neg (by decide)]
        cases hm2 : isM (all.drop p) [40] with
        | true =>
          rw [if_pos rfl, hr]
          exact prim_open w g c p A all fin h HO hs hm2 hp
        | false =>
          rw [if_neg (by decide), b1, b2, b3, b4]
          simp only [ne_eq, not_true, if_false, Bool.false_eq_true]
          refine prim_low w g c p A all fin h hs hm2 hm _ (.inr (.inr (.inr ⟨?_, ?_, ?_, rfl⟩)))
          · rw [hl, hasK_cons]; simpa using h1
          · rw [hl, hasK_cons]; simpa using h2
          · rw [hl, hasK_cons]; simpa using h3
    | some k =>
      rw [hs] at S8
      rw [hr]
      have hk35 : k < 35 := by
        have := hs
        rw [hl, signK_high (by omega)] at this
        exact signAt_lt this
      have sr := shape_row k hk35
      cases S8 with
      | word _ hk b1 b5 b6 =>
        rw [b5, b6, b1, if_neg (by decide), if_neg (by decide), if_pos (by omega)]
        exact prim_word w g c p A all fin h k hs 1 (sr.1 hk) _ (.inl ⟨rfl, rfl⟩) _ (enters_of Tryz.func135 (by kernel_rfl) rfl) (word_read w g c (p + 1) A all fin (by omega) k)
      | call _ hk b1 b2 b3 b5 b6 =>
        rw [b5, b6, b1, b2, b3, if_neg (by decide), if_neg (by decide), if_neg (by decide), if_neg (by decide), if_pos (by omega)]
        exact prim_word w g c p A all fin h k hs 2 (sr.2.1 hk) _ (.inr (.inl ⟨rfl, rfl⟩)) _ (enters_of Tryz.func136 (by kernel_rfl) rfl) (call_read w g c (p + 1) A all fin hroom (by omega) HO k)
      | choice b1 b2 b5 b6 =>
        rw [b5, b6, b1, b2, if_neg (by decide), if_neg (by decide), if_neg (by decide), if_pos rfl]
        exact prim_word w g c p A all fin h 30 hs 3 (sr.2.2.1 rfl) _ (.inr (.inr (.inl ⟨rfl, rfl⟩))) _ (enters_of Tryz.func137 (by kernel_rfl) rfl) (choice_read w g c (p + 1) A all fin hroom (by omega) HO (30 : Nat))
      | loop _ hk b1 b2 b3 b4 b5 b6 =>
        rw [b5, b6, b1, b2, b3, b4, if_neg (by decide), if_neg (by decide), if_neg (by decide), if_neg (by decide), if_neg (by decide), if_pos (by omega)]
        have hn : nameV (all.drop (p + 1)) = nameOfV (k : Int) (all.drop (p + 1)) := by unfold nameOfV; rw [if_pos (named_loop k hk35 hk.1)]
        rw [hn]
        exact prim_word w g c p A all fin h k hs 4 (sr.2.2.2 hk) _ (.inr (.inr (.inr ⟨rfl, rfl⟩))) _ (enters_of Tryz.func138 (by kernel_rfl) rfl) (loop_read w g c (p + 1) A all fin hroom (by omega) HO k (by omega) (by omega))
/-- all levels, wherever the reader stands from p on -/
structure LvAll (g : Nat) (A : Option Addr) (c : Nat) (all : List Tok) (fin : Int) (p : Nat) : Prop where
  l1 : LvF g A c all fin 32 1 p
  l2 : LvF g A c all fin 57 2 p
  l3 : LvF g A c all fin 81 3 p
  l4 : LvF g A c all fin 98 4 p
  l5 : LvF g A c all fin 110 5 p
  l6 : LvF g A c all fin 120 6 p
  l7 : LvF g A c all fin 128 7 p
  l8 : LvF g A c all fin 133 8 p
theorem levels_any (g c : Nat) (A : Option Addr) (all : List Tok) (fin : Int) (hint : ∀ t ∈ all, -9223372036854775807 ≤ t.int ∧ t.int ≤ 9223372036854775807) : ∀ (m p : Nat), all.length + 1 - p ≤ m → LvAll g A c all fin p := by
  have e1 := enters_of Tryz.func32 (by kernel_rfl) rfl
  have e2 := enters_of Tryz.func57 (by kernel_rfl) rfl
  have e3 := enters_of Tryz.func81 (by kernel_rfl) rfl
  have e4 := enters_of Tryz.func98 (by kernel_rfl) rfl
  have e5 := enters_of Tryz.func110 (by kernel_rfl) rfl
  have e6 := enters_of Tryz.func120 (by kernel_rfl) rfl
  have e7 := enters_of Tryz.func128 (by kernel_rfl) rfl
  have e8 := enters_of Tryz.func133 (by kernel_rfl) rfl
  intro m
  induction m with
  | zero =>
    intro p hp
    have no : ∀ (F : FuncId) (n : Nat) (he : ∀ args X, Sem.run Tryz.prog (callFunc F args) X = .ok (.enter F args) X), LvF g A c all fin F n p := fun F n he => ⟨he, fun X q hq hR => absurd hR.rd.le (by omega)⟩
    exact ⟨no _ _ e1, no _ _ e2, no _ _ e3, no _ _ e4, no _ _ e5, no _ _ e6, no _ _ e7, no _ _ e8⟩
  | succ m ih =>
    intro p hp
    have H := ih (p + 1) (by omega)
    have h8 := lvF_mk e8 (fun X hX => prim_any X g c p A all fin hX hint H.l1) H.l8
    have h7 := lvF_mk e7 (fun X hX => post_any X g c p A all fin hX h8) H.l7
    have h6 := lvF_mk e6 (fun X hX => prod_any X g c p A all fin hX h7) H.l6
    have h5 := lvF_mk e5 (fun X hX => sum_any X g c p A all fin hX h6) H.l5
    have h4 := lvF_mk e4 (fun X hX => cmp_any X g c p A all fin hX h5) H.l4
    have h3 := lvF_mk e3 (fun X hX => not_any X g c p A all fin hX h4) H.l3
    have h2 := lvF_mk e2 (fun X hX => and_any X g c p A all fin hX h3) H.l2
    have h1 := lvF_mk e1 (fun X hX => or_any X g c p A all fin hX h2) H.l1
    exact ⟨h1, h2, h3, h4, h5, h6, h7, h8⟩
end Go.Proofs.YtckfcpiedainfaaGreatDoor
namespace Go.Proofs.YtckfcpiedainfaaGreatDoor
open Go Go.RowKit Go.Sort
set_option linter.unusedVariables false
def WholePost (w : World) (g : Nat) (fin : Int) (V : Except (List Tok) Tr) (e : Ending) (w' : World) : Prop := match V with
  | .ok t => ∃ b, e = .returned (.pointer (some ⟨b, 0, none⟩)) ∧ TIn w' (g + 1) b t ∧ w.grownBy w' (some g)
  | .error l' => ThrewR w g (placeV l' fin) e w'
theorem St.cell0 {w X : World} {g c p : Nat} {A : Option Addr} {all : List Tok} {fin : Int} {ts : List (Nat × Tr)} (h : St w g A c all fin ts p X) : X.cell? ⟨g, 0, none⟩ = some (.slice A all.length c) := (h.rd.rd.blk.cell 0).trans rfl
set_option maxHeartbeats 1600000 in
set_option maxRecDepth 20000 in
theorem whole_any (w : World) (g c : Nat) (A : Option Addr) (all : List Tok) (fin : Int) (h : RdC w g A c all fin 0) (hint : ∀ t ∈ all, -9223372036854775807 ≤ t.int ∧ t.int ≤ 9223372036854775807) :
    Calls Tryz.prog 18 #[.pointer (some ⟨g, 0, none⟩)] w (WholePost w g fin (readV all)) := by
  have HL := (levels_any g c A all fin hint (all.length + 1) 0 (by omega)).l1
  have HS := Lib.hid (St.start h)
  have hroom := h.rd.room
  unfold readV
  rcases HL.read w (Nat.le_refl 0) (Nat.zero_le _) with ⟨l', hr, HC⟩ | ⟨t1, p1, hr, hp1, hpl1, hz1, HC⟩
  · rw [List.drop_zero] at hr
    rw [hr]
    clear h HL hr
    go_enter Tryz.func18, Tryz.ntmps18
    go_wp2_with (go_at_call 32; (with_reducible refine (HC.out _ _ HS.out).mono ?_); rintro e w1 ⟨rfl, hg1⟩)
    exact ⟨rfl, rfl, hg1⟩
  · rw [List.drop_zero] at hr
    rw [hr]
    dsimp only
    clear h HL hr
    by_cases hlt : p1 < all.length
    · obtain ⟨t, r, hl⟩ : ∃ t r, all.drop p1 = t :: r := by
        rw [List.drop_eq_getElem_cons hlt]; exact ⟨_, _, rfl⟩
      rw [hl]
      dsimp only
      have HP : Hid (placeV (t :: r) fin = placeV (all.drop p1) fin) := Lib.hid (by rw [hl])
      have q1 : decide ((p1 : Int) < (all.length : Int)) = true := decide_eq_true (by omega)
      clear hl
      go_enter Tryz.func18, Tryz.ntmps18
      go_wp2_with (go_at_call 32; (with_reducible refine (HC.out _ _ HS.out).mono ?_); rintro e w1 ⟨b1, rfl, hS1⟩; have HS1 := Lib.hid hS1; have c0 := hS1.cell0; have c1 := hS1.cell1.1; clear hS1)
      go_quiet (fail)
      have HS2 := Lib.hid (HS1.out.below (below_drewN (Below.refl _ _) nq))
      clear HS1 c0 c1
      generalize w1.drewN nq = w2 at HS2 ⊢
      go_wp2_with (go_at_call 33; (with_reducible refine (refuse_any _ g c p1 A all fin HS2.out.rd.rd).mono ?_); rintro e w3 ⟨rfl, hb3⟩)
      refine ⟨rfl, ?_⟩
      rw [← HP.out]
      exact ⟨rfl, HS2.out.gr.trans (grown_below hb3 _)⟩
    · have hl : all.drop p1 = [] := List.drop_eq_nil_of_le (by omega)
      rw [hl]
      dsimp only
      have q1 : decide ((p1 : Int) < (all.length : Int)) = false := decide_eq_false (by omega)
      clear hl
      go_enter Tryz.func18, Tryz.ntmps18
      go_wp2_with (go_at_call 32; (with_reducible refine (HC.out _ _ HS.out).mono ?_); rintro e w1 ⟨b1, rfl, hS1⟩; have HS1 := Lib.hid hS1; have c0 := hS1.cell0; have c1 := hS1.cell1.1; clear hS1)
      go_quiet (fail)
      have HS2 := Lib.hid (HS1.out.below (below_drewN (Below.refl _ _) nq))
      clear HS1 c0 c1
      generalize w1.drewN nq = w2 at HS2 ⊢
      go_wp2_with fail
      go_ret
      exact ⟨b1, rfl, HS2.out.head, HS2.out.gr⟩
end Go.Proofs.YtckfcpiedainfaaGreatDoor
namespace Go.Proofs.YtckfcpiedainfaaGreatDoor
open Go Go.RowKit Go.Sort
set_option linter.unusedVariables false
theorem enInfo : (Tryz.prog.info? 52).map (fun i => (i.zero, i.size, i.bytes)) = some (some (.agg #[.int .i64 0, .string ByteArray.empty, .int .i64 0, .slice none 0 0]), 4, 56) := by kernel_rfl
theorem en_one (x : EN) (A : Option Addr) (n c : Nat) : ∀ u ∈ [Value.int .i64 x.kind, .string x.text, .int .i64 x.int, .slice A n c], u.oneCell' = true := by
  intro u hu
  simp at hu
  rcases hu with rfl | rfl | rfl | rfl <;> rfl
/-- a node whose kids lie in own memory -/
structure EnOwn (w : World) (B : Nat) (x : EN × Sl) : Prop where
  kn : x.2.n = x.1.kids.length
  k : w.ownsRow B 3 1 (.slice x.2.A x.2.n x.2.c) x.2.n (intCells x.1.kids)
theorem enOK : OwnK EnOwn 52 := ⟨fun h hb => ⟨h.kn, own_after h.k hb⟩, fun h ho hg => ⟨h.kn, own_kept h.k ho (by decide) hg⟩, fun h hB => ⟨h.kn, own_mono h.k hB⟩⟩
theorem EnOwn.in_ {w : World} {B : Nat} {x : EN × Sl} (h : EnOwn w B x) : EnIn w B w.heap.size x := ⟨h.kn, own_row h.k⟩
theorem enLt {X : World} {B : Nat} {g : EN × Sl} (h : EnOwn X B g) : Below' enC X.heap.size g := by
  intro v hv j hj
  simp only [enC, List.mem_cons, List.not_mem_nil, or_false] at hv
  rcases hv with rfl | rfl | rfl | rfl
  · simp [Value.ownBlock] at hj
  · simp [Value.ownBlock] at hj
  · simp [Value.ownBlock] at hj
  · exact own_lt' h.k hj
abbrev GE := GL enC EnOwn 52 4
/-- the boxes of Twin -/
structure TB (w : World) (A : Option Addr) (n c : Nat) (v : Value) (X : World) : Prop where
  bel : Below w.heap.size w X
  e : Blk X w.heap.size 24 #[.slice A n c]
  r : Blk X (w.heap.size + 1) 24 #[.slice none 0 0]
  o : Blk X (w.heap.size + 1 + 1) 24 #[v]
section
variable {w : World} {A : Option Addr} {n c : Nat} {v : Value} {X X' : World}
theorem TB.after (h : TB w A n c v X) (hb : Below X.heap.size X X') : TB w A n c v X' := ⟨h.bel.trans (hb.mono h.bel.size), h.e.after hb, h.r.after hb, h.o.after hb⟩
theorem TB.kept (h : TB w A n c v X) {B m : Nat} {e : TypeId} {size : Nat} {v' : Value} {xs : List Value} (ho : X.ownsRow B e size v' m xs) (hne : e ≠ 24) (hB : w.heap.size ≤ B) (hg : X.grownBy X' v'.ownBlock) : TB w A n c v X' :=
  ⟨below_grows h.bel hg ho hB, h.e.grown hg (Ne.symm (own_blk_ne ho h.e hne)), h.r.grown hg (Ne.symm (own_blk_ne ho h.r hne)), h.o.grown hg (Ne.symm (own_blk_ne ho h.o hne))⟩
theorem TB.set (h : TB w A n c v X) (u : Value) : TB w A n c u (X.setCell ⟨w.heap.size + 1 + 1, 0, none⟩ u) :=
  ⟨h.bel.setCell (p := ⟨w.heap.size + 1 + 1, 0, none⟩) (by show w.heap.size ≤ w.heap.size + 1 + 1; omega) _, h.e.far (p := ⟨w.heap.size + 1 + 1, 0, none⟩) (by show w.heap.size ≠ w.heap.size + 1 + 1; omega) _, h.r.far (p := ⟨w.heap.size + 1 + 1, 0, none⟩) (by show w.heap.size + 1 ≠ w.heap.size + 1 + 1; omega) _, by simpa using h.o.set_ 0 u⟩
end
end Go.Proofs.YtckfcpiedainfaaGreatDoor

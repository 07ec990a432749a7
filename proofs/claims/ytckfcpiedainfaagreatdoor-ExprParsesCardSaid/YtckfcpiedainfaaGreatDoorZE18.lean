/-
  WALKS over package expr's reader: refuse, is, must.
  WALKS over package expr's reader: must.
  WALKS over package expr's reader: take.
-/
import Derived.Test.YtckfcpiedainfaaGreatDoorZE17
import Derived.StillTailTactics
import Derived.Lib.QuietBelow
namespace Go.Proofs.YtckfcpiedainfaaGreatDoor
open Go Go.RowKit Go.Sort
set_option linter.unusedVariables false
/-- a place is thrown -/
def ThrewP (w : World) (q : Int) (e : Ending) (w' : World) : Prop := e = .panicked [{ v := .iface 44 (.int .i64 q), recovered := false }] ∧ Below w.heap.size w w'
set_option maxHeartbeats 400000 in
set_option maxRecDepth 20000 in
theorem refuse_any (w : World) (g c p : Nat) (A : Option Addr) (all : List Tok) (fin : Int) (h : RdIn w g A c all fin p) :
    Calls Tryz.prog 33 #[.pointer (some ⟨g, 0, none⟩)] w (ThrewP w (placeV (all.drop p) fin)) := by
  have c0 := h.blk.cell 0
  have c1 := h.blk.cell 1
  have c2 := h.blk.cell 2
  simp at c0 c1 c2
  have hroom := h.room
  by_cases hp : p < all.length
  · have ht : all[p]? = some all[p] := List.getElem?_eq_getElem hp
    obtain ⟨b, rfl, d0, d1, d2, d3⟩ := h.tok ht
    rw [drop_head ht]
    have q1 : decide ((p : Int) < (all.length : Int)) = true := decide_eq_true (by omega)
    have hix : p < all.length := hp
    have hK : placeV (all[p] :: all.drop (p + 1)) fin = all[p].place := rfl
    rw [hK]
    clear h ht d0 d1 d2
    go_enter Tryz.func33, Tryz.ntmps33
    go_wp2_with fail
    go_quiet (fail)
    go_wp2_with fail
    have hb2 : Below w.heap.size w (w.drewN _) := below_drewN (Below.refl _ _) nq
    replace c0 := (hb2.cell (World.block_lt_of_cell? w _ c0)).trans c0
    replace c1 := (hb2.cell (World.block_lt_of_cell? w _ c1)).trans c1
    replace d3 := (hb2.cell (World.block_lt_of_cell? w _ d3)).trans d3
    generalize w.drewN nq = W at hb2 c0 c1 d3 ⊢
    go_still_tail 12, (by kernel_rfl)
    go_wp2_with fail
    exact ⟨rfl, rfl, hb2.os, hb2.tape, hb2.output, hb2.size, hb2.block⟩
  · rw [drop_end hp]
    have q1 : decide ((p : Int) < (all.length : Int)) = false := decide_eq_false (by omega)
    go_enter Tryz.func33, Tryz.ntmps33
    go_wp2_with fail
    go_quiet (fail)
    go_wp2_with fail
    simp [bodyPost]
    exact ⟨rfl, below_drewN (Below.refl _ _) _⟩
/-- is there a next token that is a mark or a word? -/
def mkB (l : List Tok) : Bool := match l with | t :: _ => decide (4 ≤ t.kind) | [] => false
theorem hasK_mk {l : List Tok} (hk : ∀ t ∈ l, 1 ≤ t.kind ∧ t.kind ≤ 5) : (hasK l 4 || hasK l 5) = mkB l := by
  cases l with
  | nil => rfl
  | cons t r =>
    have := (hk t List.mem_cons_self).2
    unfold hasK mkB
    by_cases h4 : t.kind = 4
    · simp [h4]
    · by_cases h5 : t.kind = 5
      · simp [h5]
      · have : ¬ 4 ≤ t.kind := by omega
        simp [h4, h5, this]
set_option maxHeartbeats 800000 in
set_option maxRecDepth 20000 in
theorem is_any (w : World) (g c p : Nat) (A : Option Addr) (all : List Tok) (fin : Int) (h : RdIn w g A c all fin p) (s : ByteArray) :
    Calls Tryz.prog 139 #[.pointer (some ⟨g, 0, none⟩), .string s] w (Ret w (.bool (isM (all.drop p) s.data.toList))) := by
  have c0 := h.blk.cell 0
  have c1 := h.blk.cell 1
  simp at c0 c1
  have hroom := h.room
  have HH : Hid (∀ (d : Nat) (os : Array Obj) (k : Int), Calls Tryz.prog 95 #[.pointer (some ⟨g, 0, none⟩), .int .i64 k] (grow (redrawn w d) os) (fun e w'' => e = .returned (.bool (hasK (all.drop p) k)) ∧ ∃ p : Regrown, w'' = grow (redrawn w p.d) p.os)) :=
    Lib.hid fun d os k => Calls.regrown_of ((has_any _ g c p A all fin k (h.after (below_regrown w d os))).mono fun _ _ hh => hh)
  have hk0 : (hasK (all.drop p) 4 || hasK (all.drop p) 5) = mkB (all.drop p) := hasK_mk fun t ht => h.kinds t (List.mem_of_mem_drop ht)
  by_cases hp : p < all.length
  · have ht : all[p]? = some all[p] := List.getElem?_eq_getElem hp
    obtain ⟨b, rfl, d0, d1, d2, d3⟩ := h.tok ht
    rw [drop_head ht] at HH hk0 ⊢
    have hM : isM (all[p] :: all.drop (p + 1)) s.data.toList = (mkB (all[p] :: all.drop (p + 1)) && (all[p].text.toList == s.toList)) := by rw [ByteArray.toList_eq, ByteArray.toList_eq]; rfl
    rw [hM, ← hk0]
    have H4 : Hid (∀ (d : Nat) (os : Array Obj), Calls Tryz.prog 95 #[.pointer (some ⟨g, 0, none⟩), .int .i64 4] (grow (redrawn w d) os) (fun e w'' => e = .returned (.bool (hasK (all[p] :: all.drop (p + 1)) 4)) ∧ ∃ p : Regrown, w'' = grow (redrawn w p.d) p.os)) := Lib.hid fun d os => HH.out d os 4
    have H5 : Hid (∀ (d : Nat) (os : Array Obj), Calls Tryz.prog 95 #[.pointer (some ⟨g, 0, none⟩), .int .i64 5] (grow (redrawn w d) os) (fun e w'' => e = .returned (.bool (hasK (all[p] :: all.drop (p + 1)) 5)) ∧ ∃ p : Regrown, w'' = grow (redrawn w p.d) p.os)) := Lib.hid fun d os => HH.out d os 5
    clear h ht d0 d2 d3 hk0 HH hM
    have hix : p < all.length := hp
    have z0 := fun d os => cell_regrown c0 d os
    have z1 := fun d os => cell_regrown c1 d os
    have z2 := fun d os => cell_regrown d1 d os
    generalize hasK (all[p] :: all.drop (p + 1)) 5 = b5 at H5 ⊢
    generalize hasK (all[p] :: all.drop (p + 1)) 4 = b4 at H4 ⊢
    cases b5 with
    | true =>
      go_enter Tryz.func139, Tryz.ntmps139
      go_wp2_with fail
      refine wp_region_quiet_below (by kernel_rfl) (by kernel_rfl) ?_
      repeat (go_big_quiet_step ((go_at_call 95; first | (with_reducible exact H5.out _ _) | (with_reducible exact H4.out _ _))))
      refine wpQuiet_nil ?_
      intro _ hw'
      obtain ⟨⟨dq, osq⟩, hw''⟩ := hw'
      subst hw''
      have hb2 := below_regrown w dq osq
      generalize grow (redrawn w dq) osq = w2 at hb2 ⊢
      go_wp2_with fail
      go_ret
      exact ⟨by simp, hb2⟩
    | false => cases b4 with
      | true =>
        go_enter Tryz.func139, Tryz.ntmps139
        go_wp2_with fail
        refine wp_region_quiet_below (by kernel_rfl) (by kernel_rfl) ?_
        repeat (go_big_quiet_step ((go_at_call 95; first | (with_reducible exact H5.out _ _) | (with_reducible exact H4.out _ _))))
        refine wpQuiet_nil ?_
        intro _ hw'
        obtain ⟨⟨dq, osq⟩, hw''⟩ := hw'
        subst hw''
        have hb2 := below_regrown w dq osq
        generalize grow (redrawn w dq) osq = w2 at hb2 ⊢
        go_wp2_with fail
        go_ret
        exact ⟨by simp, hb2⟩
      | false =>
        go_enter Tryz.func139, Tryz.ntmps139
        go_wp2_with fail
        refine wp_region_quiet_below (by kernel_rfl) (by kernel_rfl) ?_
        repeat (go_big_quiet_step ((go_at_call 95; first | (with_reducible exact H5.out _ _) | (with_reducible exact H4.out _ _))))
        refine wpQuiet_nil ?_
        intro _ hw'
        obtain ⟨⟨dq, osq⟩, hw''⟩ := hw'
        subst hw''
        have hb2 := below_regrown w dq osq
        generalize grow (redrawn w dq) osq = w2 at hb2 ⊢
        go_wp2_with fail
        go_ret
        exact ⟨by simp, hb2⟩
  · rw [drop_end hp] at HH ⊢
    have H4 : Hid (∀ (d : Nat) (os : Array Obj), Calls Tryz.prog 95 #[.pointer (some ⟨g, 0, none⟩), .int .i64 4] (grow (redrawn w d) os) (fun e w'' => e = .returned (.bool false) ∧ ∃ p : Regrown, w'' = grow (redrawn w p.d) p.os)) := Lib.hid fun d os => HH.out d os 4
    have H5 : Hid (∀ (d : Nat) (os : Array Obj), Calls Tryz.prog 95 #[.pointer (some ⟨g, 0, none⟩), .int .i64 5] (grow (redrawn w d) os) (fun e w'' => e = .returned (.bool false) ∧ ∃ p : Regrown, w'' = grow (redrawn w p.d) p.os)) := Lib.hid fun d os => HH.out d os 5
    have hM : isM [] s.data.toList = false := rfl
    rw [hM]
    clear h hk0 HH hM
    go_enter Tryz.func139, Tryz.ntmps139
    go_wp2_with fail
    refine wp_region_quiet_below (by kernel_rfl) (by kernel_rfl) ?_
    repeat (go_big_quiet_step ((go_at_call 95; first | (with_reducible exact H5.out _ _) | (with_reducible exact H4.out _ _))))
    refine wpQuiet_nil ?_
    intro _ hw'
    obtain ⟨⟨dq, osq⟩, hw''⟩ := hw'
    subst hw''
    have hb2 := below_regrown w dq osq
    generalize grow (redrawn w dq) osq = w2 at hb2 ⊢
    go_wp2_with fail
    go_ret
    exact ⟨rfl, hb2⟩
end Go.Proofs.YtckfcpiedainfaaGreatDoor
namespace Go.Proofs.YtckfcpiedainfaaGreatDoor
open Go Go.RowKit Go.Sort
set_option linter.unusedVariables false
theorem RdIn.kept {w w' : World} {g c p : Nat} {A : Option Addr} {all : List Tok} {fin : Int} (h : RdIn w g A c all fin p) (hg : w.grownBy w' (some g)) {p' : Nat} (hp : p' ≤ all.length) (hb : Blk w' g 47 #[.slice A all.length c, .int .i64 p', .int .i64 fin]) : RdIn w' g A c all fin p' := by
  obtain ⟨B, ho⟩ := h.own
  refine ⟨hb, ⟨B, ho.kept hg ?_⟩, h.far, hp, h.room, h.kinds, h.txt⟩
  cases hA : A with
  | none => left; rfl
  | some a => right; intro e; exact h.far a hA (by simpa [Value.ownBlock] using e)
theorem grown_set {W : World} {g i : Nat} {v : Value} : W.grownBy (W.setCell ⟨g, i, none⟩ v) (some g) := ⟨rfl, rfl, rfl, by simp, fun k _ hne => by
  have : k ≠ g := fun e => hne (by rw [e])
  simp [World.setCell, Array.getElem?_modify, Ne.symm this]⟩
theorem grown_below {w w' : World} (h : Below w.heap.size w w') (r : Option Nat) : w.grownBy w' r := ⟨h.os, h.tape, h.output, h.size, fun k hk _ => h.block k hk⟩
/-- the reader goes on: these tokens are left -/
def Went (w : World) (g : Nat) (A : Option Addr) (c : Nat) (all : List Tok) (fin : Int) (l' : List Tok) (w' : World) : Prop := ∃ p', l' = all.drop p' ∧ RdIn w' g A c all fin p' ∧ w.grownBy w' (some g)
/-- a place is thrown; nothing but the reader may have changed -/
def ThrewR (w : World) (g : Nat) (q : Int) (e : Ending) (w' : World) : Prop := e = .panicked [{ v := .iface 44 (.int .i64 q), recovered := false }] ∧ w.grownBy w' (some g)
def MustPost (w : World) (g : Nat) (A : Option Addr) (c : Nat) (all : List Tok) (fin : Int) (r : Except (List Tok) (List Tok)) (e : Ending) (w' : World) : Prop := match r with
  | .ok l' => e = .returned (.tuple #[]) ∧ Went w g A c all fin l' w'
  | .error l' => ThrewR w g (placeV l' fin) e w'
set_option maxHeartbeats 800000 in
set_option maxRecDepth 20000 in
theorem must_any (w : World) (g c p : Nat) (A : Option Addr) (all : List Tok) (fin : Int) (h : RdIn w g A c all fin p) (s : ByteArray) :
    Calls Tryz.prog 143 #[.pointer (some ⟨g, 0, none⟩), .string s] w (MustPost w g A c all fin (mustV (all.drop p) s.data.toList)) := by
  have HI := Lib.hid (is_any w g c p A all fin h s)
  have HR := Lib.hid h
  unfold mustV
  cases hm : isM (all.drop p) s.data.toList with
  | false =>
    rw [hm] at HI
    have HT : Hid (∀ w1, Below w.heap.size w w1 → Calls Tryz.prog 33 #[.pointer (some ⟨g, 0, none⟩)] w1 (ThrewP w1 (placeV (all.drop p) fin))) := Lib.hid fun w1 hb => refuse_any w1 g c p A all fin (h.after hb)
    clear h hm
    go_enter Tryz.func143, Tryz.ntmps143
    go_wp2_with (first | (go_at_call 139; refine HI.out.mono ?_; rintro e w1 ⟨rfl, hb1⟩; have HB1 := Lib.hid hb1; clear hb1) | (go_at_call 33; refine (HT.out _ HB1.out).mono ?_; rintro e w2 ⟨rfl, hb2⟩))
    exact ⟨rfl, rfl, grown_below (HB1.out.trans (hb2.mono HB1.out.size)) _⟩
  | true =>
    rw [hm] at HI
    have hp : p < all.length := by
      rcases Nat.lt_or_ge p all.length with hp | hp
      · exact hp
      · rw [List.drop_eq_nil_of_le hp] at hm; cases hm
    have hw1 : IntKind.i64.wrap ((p : Int) + 1) = ((p + 1 : Nat) : Int) := by rw [IntWalk.i64_in _ (by have := h.room; omega)]; omega
    have c1 := h.blk.cell 1
    simp at c1
    clear h hm
    go_enter Tryz.func143, Tryz.ntmps143
    go_wp2_with (go_at_call 139; refine HI.out.mono ?_; rintro e w1 ⟨rfl, hb1⟩; have HB1 := Lib.hid hb1; have HR1 := Lib.hid (HR.out.after hb1); have k1 := (hb1.cell (World.block_lt_of_cell? w _ c1)).trans c1; have f1 := HR1.out.blk.frozen 1; clear hb1)
    have hg : w.grownBy (w1.setCell ⟨g, 1, none⟩ (.int .i64 ((p : Int) + 1))) (some g) := (grown_below HB1.out _).trans grown_set
    refine ⟨rfl, .tuple #[], by simp [results, Tryz.results143], rfl, p + 1, by simp, HR.out.kept hg (by omega) ?_, hg⟩
    have := HR1.out.blk.set_ 1 (.int .i64 ((p : Int) + 1))
    simpa using this
end Go.Proofs.YtckfcpiedainfaaGreatDoor
namespace Go.Proofs.YtckfcpiedainfaaGreatDoor
open Go Go.RowKit Go.Sort
set_option linter.unusedVariables false
def tokVal (t : Tok) : Value := .agg #[.int .i64 t.kind, .string t.text, .int .i64 t.int, .int .i64 t.place]
def TakePost (w : World) (g : Nat) (A : Option Addr) (c : Nat) (all : List Tok) (fin k : Int) (l : List Tok) (e : Ending) (w' : World) : Prop := match l with
  | t :: l' => if t.kind = k then e = .returned (tokVal t) ∧ Went w g A c all fin l' w' else ThrewR w g (placeV (t :: l') fin) e w'
  | [] => ThrewR w g fin e w'
theorem take_no {w : World} {g c : Nat} {A : Option Addr} {all l : List Tok} {fin k : Int} (h : hasK l k = false) {e : Ending} {w' : World} (ht : ThrewR w g (placeV l fin) e w') : TakePost w g A c all fin k l e w' := by
  cases l with
  | nil => exact ht
  | cons t r =>
    have hk : ¬ t.kind = k := by simpa [hasK] using h
    show if t.kind = k then _ else _
    rw [if_neg hk]; exact ht
set_option maxHeartbeats 800000 in
set_option maxRecDepth 20000 in
theorem take_any (w : World) (g c p : Nat) (A : Option Addr) (all : List Tok) (fin k : Int) (h : RdIn w g A c all fin p) :
    Calls Tryz.prog 142 #[.pointer (some ⟨g, 0, none⟩), .int .i64 k] w (TakePost w g A c all fin k (all.drop p)) := by
  have HI : Hid (∀ w1, Below w.heap.size w w1 → Calls Tryz.prog 95 #[.pointer (some ⟨g, 0, none⟩), .int .i64 k] w1 (Ret w1 (.bool (hasK (all.drop p) k)))) := Lib.hid fun w1 hb => has_any w1 g c p A all fin k (h.after hb)
  have HR := Lib.hid h
  cases hm : hasK (all.drop p) k with
  | false =>
    rw [hm] at HI
    have HM := Lib.hid hm
    have HT : Hid (∀ w1, Below w.heap.size w w1 → Calls Tryz.prog 33 #[.pointer (some ⟨g, 0, none⟩)] w1 (ThrewP w1 (placeV (all.drop p) fin))) := Lib.hid fun w1 hb => refuse_any w1 g c p A all fin (h.after hb)
    clear h hm
    have HB0 : ∀ o, Below w.heap.size w (w.alloc o) := fun o => below_of_alloc o
    go_enter Tryz.func142, Tryz.ntmps142
    go_wp2_with (first | (go_at_call 95; refine (HI.out _ (below_more (Below.refl _ _) _)).mono ?_; rintro e w1 ⟨rfl, hb1⟩; have HB1 := Lib.hid ((below_more (Below.refl _ _) _).trans (hb1.mono (by simp))); clear hb1) | (go_at_call 33; refine (HT.out _ HB1.out).mono ?_; rintro e w2 ⟨rfl, hb2⟩))
    exact ⟨rfl, take_no HM.out ⟨rfl, grown_below (HB1.out.trans (hb2.mono HB1.out.size)) _⟩⟩
  | true =>
    rw [hm] at HI
    have hp : p < all.length := by
      rcases Nat.lt_or_ge p all.length with hp | hp
      · exact hp
      · rw [List.drop_eq_nil_of_le hp] at hm; cases hm
    have ht : all[p]? = some all[p] := List.getElem?_eq_getElem hp
    obtain ⟨b, rfl, d0, d1, d2, d3⟩ := h.tok ht
    rw [drop_head ht] at hm ⊢
    have hkk : all[p].kind = k := by simpa [hasK] using hm
    have HK := Lib.hid hkk
    have hw1 : IntKind.i64.wrap ((p : Int) + 1) = (p : Int) + 1 := IntWalk.i64_in _ (by have := h.room; omega)
    have hw2 : IntKind.i64.wrap (p : Int) = (p : Int) := IntWalk.i64_in _ (by have := h.room; omega)
    have c0 := h.blk.cell 0
    have c1 := h.blk.cell 1
    simp at c0 c1
    have hgb := h.far _ rfl
    have hix : p < all.length := hp
    clear h hm ht hkk
    go_enter Tryz.func142, Tryz.ntmps142
    go_wp2_with (go_at_call 95; refine (HI.out _ (below_more (Below.refl _ _) _)).mono ?_; rintro e w1 ⟨rfl, hb1⟩; have HB1 := Lib.hid hb1; have hbb := (below_of_alloc _).trans (hb1.mono (by simp)); have HR1 := Lib.hid (HR.out.after hbb); have k1 := (hbb.cell (World.block_lt_of_cell? w _ c1)).trans c1; have k0 := (hbb.cell (World.block_lt_of_cell? w _ c0)).trans c0; have f1 := HR1.out.blk.frozen 1; clear hb1)
    have hgl : g < w.heap.size := HR.out.blk.lt
    have hg : w.grownBy (w1.setCell ⟨g, 1, none⟩ (.int .i64 ((p : Int) + 1))) (some g) := (grown_below hbb _).trans grown_set
    have hR2 : RdIn (w1.setCell ⟨g, 1, none⟩ (.int .i64 ((p : Int) + 1))) g (some ⟨b, 0, none⟩) c all fin (p + 1) := HR.out.kept hg (by omega) (by
      have := HR1.out.blk.set_ 1 (.int .i64 ((p : Int) + 1))
      simpa using this)
    have hRes : Blk (w1.setCell ⟨g, 1, none⟩ (.int .i64 ((p : Int) + 1))) w.heap.size 80 #[.int .i64 0, .string { data := #[] }, .int .i64 0, .int .i64 0] := ((Blk.new' rfl).after HB1.out).far (by simp; omega) _
    have hfar : ∀ {o : Nat} {v : Value}, w.cell? ⟨b, o, none⟩ = some v → (w1.setCell ⟨g, 1, none⟩ (.int .i64 ((p : Int) + 1))).cell? ⟨b, o, none⟩ = some v := fun hv => hg.cell hv (by simpa using hgb)
    replace d0 := hfar d0
    replace d1 := hfar d1
    replace d2 := hfar d2
    replace d3 := hfar d3
    clear hfar hbb HB1 HR1 k0 k1 f1 c0 c1
    generalize w1.setCell ⟨g, 1, none⟩ (.int .i64 ((p : Int) + 1)) = W at hg hR2 hRes d0 d1 d2 d3 ⊢
    have c0 := hR2.blk.cell 0
    have c1 := hR2.blk.cell 1
    simp at c0 c1
    have y0 := hRes.frozen 0
    have y1 := hRes.frozen 1
    have y2 := hRes.frozen 2
    have y3 := hRes.frozen 3
    have x0 := hRes.cell 0
    have x1 := hRes.cell 1
    have x2 := hRes.cell 2
    have x3 := hRes.cell 3
    simp at x0 x1 x2 x3
    have HG := Lib.hid hg
    have HR2 := Lib.hid hR2
    have HRes := Lib.hid hRes
    clear hg hR2 hRes
    go_still_tail 11, (by kernel_rfl)
    go_wp2_with fail
    have k4 := ((((grown_set (W := W) (g := w.heap.size) (i := 0) (v := .int .i64 all[p].kind)).trans (grown_set (i := 1) (v := .string all[p].text))).trans (grown_set (i := 2) (v := .int .i64 all[p].int))).trans (grown_set (i := 3) (v := .int .i64 all[p].place)))
    have hz : Blk (((((W.setCell ⟨w.heap.size, 0, none⟩ (.int .i64 all[p].kind)).setCell ⟨w.heap.size, 1, none⟩ (.string all[p].text)).setCell ⟨w.heap.size, 2, none⟩ (.int .i64 all[p].int)).setCell ⟨w.heap.size, 3, none⟩ (.int .i64 all[p].place)).drew) w.heap.size 80 #[.int .i64 all[p].kind, .string all[p].text, .int .i64 all[p].int, .int .i64 all[p].place] := by
      have := (((HRes.out.set_ 0 (.int .i64 all[p].kind)).set_ 1 (.string all[p].text)).set_ 2 (.int .i64 all[p].int)).set_ 3 (.int .i64 all[p].place)
      simp at this
      exact Blk.drewN this 1
    generalize hW : ((((W.setCell ⟨w.heap.size, 0, none⟩ (.int .i64 all[p].kind)).setCell ⟨w.heap.size, 1, none⟩ (.string all[p].text)).setCell ⟨w.heap.size, 2, none⟩ (.int .i64 all[p].int)).setCell ⟨w.heap.size, 3, none⟩ (.int .i64 all[p].place)) = W4 at k4 hz ⊢
    have k5 : W.grownBy W4.drew (some w.heap.size) := ⟨k4.os, k4.tape, k4.output, k4.size, k4.block⟩
    have hgr : w.grownBy W4.drew (some g) := HG.out.andThen k5 fun j hj => .inl (by injection hj with hj; omega)
    have z0 := hz.cell 0
    have z1 := hz.cell 1
    have z2 := hz.cell 2
    have z3 := hz.cell 3
    simp at z0 z1 z2 z3
    refine ⟨rfl, tokVal all[p], by simp [results, Tryz.results142, go_sem, z0, z1, z2, z3, tokVal], ?_⟩
    show if all[p].kind = k then _ else _
    rw [if_pos HK.out]
    exact ⟨rfl, p + 1, rfl, HR.out.kept hgr (by omega) (HR2.out.blk.grown k5 (by simp; omega)), hgr⟩
end Go.Proofs.YtckfcpiedainfaaGreatDoor

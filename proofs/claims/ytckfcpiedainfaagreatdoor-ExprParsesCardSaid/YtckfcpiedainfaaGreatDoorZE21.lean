/-
  WALKS over package expr's reader: sign.
  PLAIN: what is left behind an expression is the end of what there was. No program stands in it.
-/
import Derived.Test.YtckfcpiedainfaaGreatDoorZE20
namespace Go.Proofs.YtckfcpiedainfaaGreatDoor
open Go Go.RowKit Go.Sort
set_option linter.unusedVariables false
def SignPost (w : World) (g : Nat) (A : Option Addr) (c : Nat) (all : List Tok) (fin : Int) (o : Option Nat) (l : List Tok) (e : Ending) (w' : World) : Prop := e = .returned (kindVal o) ∧ Went w g A c all fin (match o with | some _ => l.drop 1 | none => l) w'
theorem signK_mk {n : Int} {l : List Tok} (h : mkB l = false) : signK n l = none := by
  cases l with
  | nil => rfl
  | cons t r =>
    have : ¬ 4 ≤ t.kind := by simpa [mkB] using h
    exact if_neg this
theorem signK_yes {n : Int} {t : Tok} {r : List Tok} (h : mkB (t :: r) = true) : signK n (t :: r) = signAt n t.text.data.toList := by
  have : 4 ≤ t.kind := by simpa [mkB] using h
  exact if_pos this
set_option maxHeartbeats 1600000 in
set_option maxRecDepth 20000 in
theorem sign_any (w : World) (g c p : Nat) (A : Option Addr) (all : List Tok) (fin : Int) (h : RdIn w g A c all fin p) (hE : ExprEnv w) (n : Int) :
    Calls Tryz.prog 79 #[.pointer (some ⟨g, 0, none⟩), .int .i64 n] w (SignPost w g A c all fin (signK n (all.drop p)) (all.drop p)) := by
  have hk0 : (hasK (all.drop p) 4 || hasK (all.drop p) 5) = mkB (all.drop p) := hasK_mk fun t ht => h.kinds t (List.mem_of_mem_drop ht)
  have H5 : Hid (Calls Tryz.prog 95 #[.pointer (some ⟨g, 0, none⟩), .int .i64 5] w (Ret w (.bool (hasK (all.drop p) 5)))) := Lib.hid (has_any _ g c p A all fin 5 h)
  have H4 : Hid (∀ w1, Below w.heap.size w w1 → Calls Tryz.prog 95 #[.pointer (some ⟨g, 0, none⟩), .int .i64 4] w1 (Ret w1 (.bool (hasK (all.drop p) 4)))) := Lib.hid fun w1 hb => has_any _ g c p A all fin 4 (h.after hb)
  have HR := Lib.hid h
  cases hm : mkB (all.drop p) with
  | false =>
    rw [hm] at hk0
    have b4 : hasK (all.drop p) 4 = false := by revert hk0; cases hasK (all.drop p) 4 <;> simp
    have b5 : hasK (all.drop p) 5 = false := by revert hk0; cases hasK (all.drop p) 5 <;> simp
    rw [b4] at H4
    rw [b5] at H5
    rw [signK_mk hm]
    clear h hE hk0 hm b4 b5
    go_enter Tryz.func79, Tryz.ntmps79
    go_wp2_with (first | (go_at_call 95; (with_reducible refine H5.out.mono ?_); rintro e w1 ⟨rfl, hb1⟩; have HB1 := Lib.hid hb1; clear hb1) | (go_at_call 95; (with_reducible refine (H4.out _ HB1.out).mono ?_); rintro e w2 ⟨rfl, hb2⟩; have HB2 := Lib.hid (HB1.out.trans (hb2.mono HB1.out.size)); clear hb2))
    exact ⟨rfl, kindVal none, by simp [results, Tryz.results79, kindVal], rfl, Went.here HR.out HB2.out⟩
  | true =>
    have hp : p < all.length := by
      rcases Nat.lt_or_ge p all.length with hp | hp
      · exact hp
      · rw [List.drop_eq_nil_of_le hp] at hm; cases hm
    have ht : all[p]? = some all[p] := List.getElem?_eq_getElem hp
    obtain ⟨b, rfl, d0, d1, d2, d3⟩ := h.tok ht
    rw [drop_head ht] at hm hk0 H4 H5 ⊢
    rw [signK_yes hm]
    rw [hm] at hk0
    have HKA : Hid (∀ w2, Below w.heap.size w w2 → ∀ (d : Nat) (os : Array Obj), Calls Tryz.prog 96 #[.int .i64 n, .string all[p].text] (grow (redrawn w2 d) os) (fun e w'' => e = .returned (kindVal (signAt n all[p].text.data.toList)) ∧ ∃ p : Regrown, w'' = grow (redrawn w2 p.d) p.os)) :=
      Lib.hid fun w2 hb d os => Calls.regrown_of ((kindAt_any _ n _ ((hE.below hb).below (below_regrown w2 d os))).mono fun _ _ hh => hh)
    have hw1 : IntKind.i64.wrap ((p : Int) + 1) = (p : Int) + 1 := IntWalk.i64_in _ (by have := h.room; omega)
    have hroom := h.room
    have c0 := h.blk.cell 0
    have c1 := h.blk.cell 1
    simp at c0 c1
    have hgl : g < w.heap.size := h.blk.lt
    have hix : p < all.length := hp
    clear h hE ht hm d0 d2 d3
    generalize signAt n all[p].text.data.toList = o at HKA ⊢
    generalize hasK (all[p] :: all.drop (p + 1)) 4 = b4 at H4 hk0
    generalize hasK (all[p] :: all.drop (p + 1)) 5 = b5 at H5 hk0
    cases b5 with
    | true =>
      clear H4 hk0
      cases o with
      | none =>
        simp only [kindVal] at HKA
        go_enter Tryz.func79, Tryz.ntmps79
        go_wp2_with (first | (go_at_call 95; (with_reducible refine H5.out.mono ?_); rintro e w1 ⟨rfl, hb1⟩; have HB1 := Lib.hid hb1; clear hb1) | (go_at_call 95; (with_reducible refine (H4.out _ HB1.out).mono ?_); rintro e w2 ⟨rfl, hb2⟩; have HB2 := Lib.hid (HB1.out.trans (hb2.mono HB1.out.size)); clear hb2))
        have hb2 := HB1.out
        generalize w1 = w2 at hb2 ⊢
        have k0 := (hb2.cell (World.block_lt_of_cell? w _ c0)).trans c0
        have k1 := (hb2.cell (World.block_lt_of_cell? w _ c1)).trans c1
        have k2 := (hb2.cell (World.block_lt_of_cell? w _ d1)).trans d1
        have HB2 := Lib.hid hb2
        have HK2 := Lib.hid (HKA.out w2 hb2)
        have HR2 := Lib.hid (HR.out.after hb2)
        clear hb2 c0 c1 d1 HKA
        have z0 := fun d os => cell_regrown k0 d os
        have z1 := fun d os => cell_regrown k1 d os
        have z2 := fun d os => cell_regrown k2 d os
        go_wp2_with fail
        refine wp_region_quiet_below (by kernel_rfl) (by kernel_rfl) ?_
        repeat (go_big_quiet_step ((go_at_call 96; (with_reducible exact HK2.out _ _))))
        refine wpQuiet_nil ?_
        intro _ hw'
        obtain ⟨⟨dq2, osq2⟩, hw''⟩ := hw'
        subst hw''
        have hb3 := below_regrown w2 dq2 osq2
        generalize grow (redrawn w2 dq2) osq2 = w3 at hb3 ⊢
        go_wp2_with fail
        refine ⟨rfl, kindVal none, by simp [results, Tryz.results79, kindVal], ?_⟩
        rw [← drop_head (List.getElem?_eq_getElem hix)]
        exact ⟨rfl, Went.here HR.out (HB2.out.trans (hb3.mono HB2.out.size))⟩
      | some k =>
        simp only [kindVal] at HKA
        go_enter Tryz.func79, Tryz.ntmps79
        go_wp2_with (first | (go_at_call 95; (with_reducible refine H5.out.mono ?_); rintro e w1 ⟨rfl, hb1⟩; have HB1 := Lib.hid hb1; clear hb1) | (go_at_call 95; (with_reducible refine (H4.out _ HB1.out).mono ?_); rintro e w2 ⟨rfl, hb2⟩; have HB2 := Lib.hid (HB1.out.trans (hb2.mono HB1.out.size)); clear hb2))
        have hb2 := HB1.out
        generalize w1 = w2 at hb2 ⊢
        have k0 := (hb2.cell (World.block_lt_of_cell? w _ c0)).trans c0
        have k1 := (hb2.cell (World.block_lt_of_cell? w _ c1)).trans c1
        have k2 := (hb2.cell (World.block_lt_of_cell? w _ d1)).trans d1
        have HB2 := Lib.hid hb2
        have HK2 := Lib.hid (HKA.out w2 hb2)
        have HR2 := Lib.hid (HR.out.after hb2)
        clear hb2 c0 c1 d1 HKA
        have z0 := fun d os => cell_regrown k0 d os
        have z1 := fun d os => cell_regrown k1 d os
        have z2 := fun d os => cell_regrown k2 d os
        go_wp2_with fail
        refine wp_region_quiet_below (by kernel_rfl) (by kernel_rfl) ?_
        repeat (go_big_quiet_step ((go_at_call 96; (with_reducible exact HK2.out _ _))))
        refine wpQuiet_nil ?_
        intro _ hw'
        obtain ⟨⟨dq2, osq2⟩, hw''⟩ := hw'
        subst hw''
        have hb3 := below_regrown w2 dq2 osq2
        generalize grow (redrawn w2 dq2) osq2 = w3 at hb3 ⊢
        have HB3 := Lib.hid (HB2.out.trans (hb3.mono HB2.out.size))
        have HR3 := Lib.hid (HR2.out.after hb3)
        have k4 := (hb3.cell (World.block_lt_of_cell? w2 _ k1)).trans k1
        have f1 := HR3.out.blk.frozen 1
        clear hb3 k0 k1 k2 z0 z1 z2 HK2
        go_wp2_with fail
        have hg : w.grownBy (w3.setCell ⟨g, 1, none⟩ (.int .i64 ((p : Int) + 1))) (some g) := (grown_below HB3.out _).trans grown_set
        refine ⟨rfl, kindVal (some k), by simp [results, Tryz.results79, kindVal], rfl, p + 1, rfl, HR.out.kept hg (by omega) ?_, hg⟩
        have := HR3.out.blk.set_ 1 (.int .i64 ((p : Int) + 1))
        simpa using this
    | false =>
      have hb4 : b4 = true := by simpa using hk0
      subst hb4
      clear hk0
      cases o with
      | none =>
        simp only [kindVal] at HKA
        go_enter Tryz.func79, Tryz.ntmps79
        go_wp2_with (first | (go_at_call 95; (with_reducible refine H5.out.mono ?_); rintro e w1 ⟨rfl, hb1⟩; have HB1 := Lib.hid hb1; clear hb1) | (go_at_call 95; (with_reducible refine (H4.out _ HB1.out).mono ?_); rintro e w2 ⟨rfl, hb2⟩; have HBX := Lib.hid (HB1.out.trans (hb2.mono HB1.out.size)); clear hb2))
        have hb2 := HBX.out
        have k0 := (hb2.cell (World.block_lt_of_cell? w _ c0)).trans c0
        have k1 := (hb2.cell (World.block_lt_of_cell? w _ c1)).trans c1
        have k2 := (hb2.cell (World.block_lt_of_cell? w _ d1)).trans d1
        have HB2 := Lib.hid hb2
        have HK2 := Lib.hid (HKA.out w2 hb2)
        have HR2 := Lib.hid (HR.out.after hb2)
        clear hb2 c0 c1 d1 HKA
        have z0 := fun d os => cell_regrown k0 d os
        have z1 := fun d os => cell_regrown k1 d os
        have z2 := fun d os => cell_regrown k2 d os
        go_wp2_with fail
        refine wp_region_quiet_below (by kernel_rfl) (by kernel_rfl) ?_
        repeat (go_big_quiet_step ((go_at_call 96; (with_reducible exact HK2.out _ _))))
        refine wpQuiet_nil ?_
        intro _ hw'
        obtain ⟨⟨dq2, osq2⟩, hw''⟩ := hw'
        subst hw''
        have hb3 := below_regrown w2 dq2 osq2
        generalize grow (redrawn w2 dq2) osq2 = w3 at hb3 ⊢
        go_wp2_with fail
        refine ⟨rfl, kindVal none, by simp [results, Tryz.results79, kindVal], ?_⟩
        rw [← drop_head (List.getElem?_eq_getElem hix)]
        exact ⟨rfl, Went.here HR.out (HB2.out.trans (hb3.mono HB2.out.size))⟩
      | some k =>
        simp only [kindVal] at HKA
        go_enter Tryz.func79, Tryz.ntmps79
        go_wp2_with (first | (go_at_call 95; (with_reducible refine H5.out.mono ?_); rintro e w1 ⟨rfl, hb1⟩; have HB1 := Lib.hid hb1; clear hb1) | (go_at_call 95; (with_reducible refine (H4.out _ HB1.out).mono ?_); rintro e w2 ⟨rfl, hb2⟩; have HBX := Lib.hid (HB1.out.trans (hb2.mono HB1.out.size)); clear hb2))
        have hb2 := HBX.out
        have k0 := (hb2.cell (World.block_lt_of_cell? w _ c0)).trans c0
        have k1 := (hb2.cell (World.block_lt_of_cell? w _ c1)).trans c1
        have k2 := (hb2.cell (World.block_lt_of_cell? w _ d1)).trans d1
        have HB2 := Lib.hid hb2
        have HK2 := Lib.hid (HKA.out w2 hb2)
        have HR2 := Lib.hid (HR.out.after hb2)
        clear hb2 c0 c1 d1 HKA
        have z0 := fun d os => cell_regrown k0 d os
        have z1 := fun d os => cell_regrown k1 d os
        have z2 := fun d os => cell_regrown k2 d os
        go_wp2_with fail
        refine wp_region_quiet_below (by kernel_rfl) (by kernel_rfl) ?_
        repeat (go_big_quiet_step ((go_at_call 96; (with_reducible exact HK2.out _ _))))
        refine wpQuiet_nil ?_
        intro _ hw'
        obtain ⟨⟨dq2, osq2⟩, hw''⟩ := hw'
        subst hw''
        have hb3 := below_regrown w2 dq2 osq2
        generalize grow (redrawn w2 dq2) osq2 = w3 at hb3 ⊢
        have HB3 := Lib.hid (HB2.out.trans (hb3.mono HB2.out.size))
        have HR3 := Lib.hid (HR2.out.after hb3)
        have k4 := (hb3.cell (World.block_lt_of_cell? w2 _ k1)).trans k1
        have f1 := HR3.out.blk.frozen 1
        clear hb3 k0 k1 k2 z0 z1 z2 HK2
        go_wp2_with fail
        have hg : w.grownBy (w3.setCell ⟨g, 1, none⟩ (.int .i64 ((p : Int) + 1))) (some g) := (grown_below HB3.out _).trans grown_set
        refine ⟨rfl, kindVal (some k), by simp [results, Tryz.results79, kindVal], rfl, p + 1, rfl, HR.out.kept hg (by omega) ?_, hg⟩
        have := HR3.out.blk.set_ 1 (.int .i64 ((p : Int) + 1))
        simpa using this
end Go.Proofs.YtckfcpiedainfaaGreatDoor
namespace Go.Proofs.YtckfcpiedainfaaGreatDoor
open Go
set_option linter.unusedVariables false
def Suf (l l' : List Tok) : Prop := ∃ k, l' = l.drop k
theorem Suf.refl (l : List Tok) : Suf l l := ⟨0, rfl⟩
theorem Suf.one (l : List Tok) : Suf l (l.drop 1) := ⟨1, rfl⟩
theorem Suf.tail (t : Tok) (r : List Tok) : Suf (t :: r) r := ⟨1, rfl⟩
theorem Suf.trans {a b d : List Tok} (h : Suf a b) (h' : Suf b d) : Suf a d := by
  obtain ⟨k, rfl⟩ := h
  obtain ⟨m, rfl⟩ := h'
  exact ⟨k + m, by rw [List.drop_drop]⟩
abbrev SufAll (rd : Md → List Tok → Rd) : Prop := ∀ m l p, rd m l = .ok p → Suf l p.2
abbrev SufR (l : List Tok) (r : Rd) : Prop := ∀ p, r = .ok p → Suf l p.2
theorem suf_bind {α : Type} {l : List Tok} {x : Except (List Tok) α} {f : α → Rd} (h : ∀ a, x = .ok a → SufR l (f a)) : SufR l (bindR x f) := by
  intro p hp
  obtain ⟨a, ha, hf⟩ := bindR_ok hp
  exact h a ha p hf
theorem suf_ok {l r : List Tok} {t : Tr} (h : Suf l r) : SufR l (.ok (t, r)) := fun p hp => by cases hp; exact h
theorem suf_err {l e : List Tok} : SufR l (.error e) := fun p hp => by cases hp
theorem suf_ite {l : List Tok} {c : Prop} [Decidable c] {x y : Rd} (h1 : c → SufR l x) (h2 : ¬ c → SufR l y) : SufR l (if c then x else y) := by
  by_cases h : c
  · rw [if_pos h]; exact h1 h
  · rw [if_neg h]; exact h2 h
theorem must_suf {l r : List Tok} {s : List UInt8} (h : mustV l s = .ok r) : Suf l r := by
  obtain ⟨_, rfl⟩ := mustV_ok h
  exact Suf.one l
theorem name_suf {l : List Tok} {x : ByteArray × List Tok} (h : nameV l = .ok x) : Suf l x.2 := by
  obtain ⟨t, r, rfl, _, rfl⟩ := nameV_ok h
  exact Suf.tail t r
theorem until_suf {rd : Md → List Tok → Rd} (h : SufAll rd) (l : List Tok) (s : List UInt8) : SufR l (untilV rd l s) := by
  intro p hp
  obtain ⟨a, ha, hf⟩ := bindR_ok hp
  obtain ⟨r, hr, he⟩ := bindR_ok hf
  cases he
  exact (h _ _ a ha).trans (must_suf hr)
theorem prim_suf {rd : Md → List Tok → Rd} (h : SufAll rd) (l : List Tok) : SufR l (primV rd l) := by
  cases l with
  | nil => exact suf_err
  | cons t r =>
    have h1 : ∀ k s i, SufR (t :: r) (.ok (.leaf k s i, r)) := fun k s i => suf_ok (Suf.tail t r)
    unfold primV
    refine suf_ite (fun _ => h1 _ _ _) fun _ => suf_ite (fun _ => h1 _ _ _) fun _ => suf_ite (fun _ => h1 _ _ _) fun _ => suf_ite (fun _ => ?_) fun _ => ?_
    · cases r with
      | nil => exact suf_err
      | cons u r2 => exact suf_ite (fun _ => suf_ok ((Suf.tail t _).trans (Suf.tail u r2))) fun _ => suf_err
    refine suf_ite (fun _ => fun p hp => (Suf.tail t r).trans (until_suf h r _ p hp)) fun _ => suf_ite (fun _ => h1 _ _ _) fun _ => suf_ite (fun _ => ?_) fun _ => suf_ite (fun _ => ?_) fun _ => suf_ite (fun _ => ?_) fun _ => suf_err
    · exact suf_bind fun a ha => suf_bind fun b hb => suf_bind fun c hc => suf_ok ((((Suf.tail t r).trans (until_suf h _ _ _ ha)).trans (until_suf h _ _ _ hb)).trans (until_suf h _ _ _ hc))
    · exact suf_bind fun q hq => suf_bind fun a ha => suf_ok (((Suf.tail t r).trans (must_suf hq)).trans (until_suf h _ _ _ ha))
    · exact suf_bind fun x hx => suf_bind fun q hq => suf_bind fun a ha => suf_bind fun b hb => suf_ok (((((Suf.tail t r).trans (name_suf hx)).trans (must_suf hq)).trans (until_suf h _ _ _ ha)).trans (until_suf h _ _ _ hb))
theorem lv_suf {rd : Md → List Tok → Rd} (h : SufAll rd) (n : Nat) (l : List Tok) : SufR l (lvV rd n l) := by
  unfold lvV
  refine suf_ite (fun _ => suf_ite (fun _ => suf_bind fun a ha => suf_ok ((Suf.one l).trans (h _ _ a ha))) fun _ => fun p hp => h _ _ p hp) fun _ => suf_ite (fun _ => suf_bind fun a ha => suf_ite (fun _ => fun p hp => by cases hp; exact h _ _ a ha) fun _ => suf_bind fun b hb => suf_ok (((h _ _ a ha).trans (Suf.one _)).trans (h _ _ b hb))) fun _ => suf_ite (fun _ => suf_bind fun a ha => fun p hp => (h _ _ a ha).trans (h _ _ p hp)) fun _ => suf_ite (fun _ => prim_suf h l) fun _ => suf_bind fun a ha => fun p hp => (h _ _ a ha).trans (h _ _ p hp)
theorem row_suf {rd : Md → List Tok → Rd} (h : SufAll rd) (n : Nat) (t : Tr) (l : List Tok) : SufR l (rowV rd n t l) := by
  unfold rowV
  exact suf_ite (fun _ => suf_ok (Suf.refl l)) fun _ => suf_bind fun b hb => fun p hp => ((Suf.one l).trans (h _ _ b hb)).trans (h _ _ p hp)
theorem steps_suf {rd : Md → List Tok → Rd} (h : SufAll rd) (t : Tr) (l : List Tok) : SufR l (stepsV rd t l) := by
  unfold stepsV
  exact suf_ite (fun _ => suf_ok (Suf.refl l)) fun _ => suf_ite (fun _ => fun p hp => (Suf.one l).trans (h _ _ p hp)) fun _ => suf_bind fun x hx => fun p hp => ((Suf.one l).trans (name_suf hx)).trans (h _ _ p hp)
theorem rd_suf : ∀ f, SufAll (rdV f)
  | 0, m, l => suf_err
  | f + 1, .lv n, l => lv_suf (rd_suf f) n l
  | f + 1, .row n t, l => row_suf (rd_suf f) n t l
  | f + 1, .step t, l => steps_suf (rd_suf f) t l
/-- .. a place in the whole -/
theorem rdX_place {n p : Nat} {all : List Tok} {q : Tr × List Tok} (h : rdX (.lv n) (all.drop p) = .ok q) (hp : p ≤ all.length) : ∃ p1, q.2 = all.drop p1 ∧ p < p1 ∧ p1 ≤ all.length := by
  obtain ⟨k, hk⟩ := rd_suf _ _ _ _ h
  have hlt := (rdX_less.lv n (all.drop p)).ok h
  rw [List.drop_drop] at hk
  rw [hk, List.length_drop, List.length_drop] at hlt
  rcases Nat.le_total (p + k) all.length with h1 | h1
  · exact ⟨p + k, hk, by omega, h1⟩
  · exact ⟨all.length, by rw [hk, List.drop_eq_nil_of_le h1, List.drop_eq_nil_of_le (Nat.le_refl _)], by omega, Nat.le_refl _⟩
end Go.Proofs.YtckfcpiedainfaaGreatDoor

/-
  WALKS: the program's Parse, where the text has tokens.
-/
import Derived.Test.YtckfcpiedainfaaGreatDoorZE29
namespace Go.Proofs.YtckfcpiedainfaaGreatDoor
open Go Go.RowKit Go.Sort
set_option linter.unusedVariables false
theorem reader_in {X : World} {A : Option Addr} {k : Nat} {l : List Tok} {fin : Int} {B : Nat} (hE : ExprEnv X) (ho : OwnT X B (.slice A l.length k) l) (hl : ToksOk l) : RdC (X.alloc (.cells #[.slice A l.length k, .int .i64 0, .int .i64 fin] 47)) X.heap.size A k l fin 0 :=
  ⟨⟨Blk.new' rfl, ⟨B, World.ownsRow.alloc ho _⟩, fun a ha => by
    subst ha
    have := (World.ownsRow.lt ho a.block rfl).2
    omega, Nat.zero_le _, by have := hl.room; omega, hl.kinds, hl.txt⟩, hE.below (below_of_alloc _), hE.top⟩
set_option maxRecDepth 20000 in
set_option maxHeartbeats 6400000 in
theorem parse_toks (w : World) (s : ByteArray) (hs : s.size ≤ 140737488355328) (hE : ExprEnv w) (hV : ScanEnv w) (S : List UInt8) (hS : s.data.toList = S) (l : List Tok) (hr : scanR S = (l, 0, 0)) : Calls Tryz.prog 8 #[.string s] w (ParsePost w (exprR S)) := by
  have hrx : exprR S = (match parseV l with
    | .error l' => ([], placeV l' S.length, 80)
    | .ok none => ([], 0, 4)
    | .ok (some m) => (m, 0, 0)) := by unfold exprR; rw [hr]; rfl
  rw [hrx]
  have hfin : (s.size : Int) = (S.length : Int) := by rw [← hS]; exact congrArg _ (toList_eq s).symm
  have HSC : Hid (∀ Y, Below w.heap.size w Y → Calls Tryz.prog 16 #[.string s] Y (ScanPost Y (l, 0, 0))) := Lib.hid fun Y hY => by rw [← hr, ← hS]; exact scan_any s Y hs (hV.below hY)
  have HTK := Lib.hid (toks_ok hr)
  have HE := Lib.hid hE
  have HB0 : Hid (PB w (.slice none 0 0) 0 0 (((w.alloc (.cells #[.slice none 0 0] 24)).alloc (.cells #[.int .i64 0] 3)).alloc (.cells #[.int .i64 0] 25))) := Lib.hid
    ⟨below_more (below_more (below_of_alloc _) _) _, ((Blk.new w _ _).alloc _).alloc _, (Blk.new' (by simp)).alloc _, Blk.new' (by simp)⟩
  have hmf : ∀ (fn : Fn) (first cap : Array Value) (w : World), (Instr.makeFunc fn first cap).run Tryz.prog w = .ok (.func fn first cap) w := fun _ _ _ _ => rfl
  have hpv : parseV l = match readV l with
    | .error e => .error e
    | .ok t => .ok (if 256 < t.size ∨ 32 < t.depth then none else some t.list) := rfl
  clear hrx hr hE hV
  cases hrd : readV l with
  | error l' =>
    rw [hrd] at hpv
    rw [hpv]
    dsimp only
    have HFIN : Hid (placeV l' (s.size : Int) = placeV l' (S.length : Int)) := Lib.hid (by rw [hfin])
    have HRD := Lib.hid hrd
    clear hpv hrd hfin
    go_enter_defers Tryz.func8, Tryz.ntmps8
    go_upto_region 1 with (fail)
    generalize ((w.alloc (.cells #[.slice none 0 0] 24)).alloc (.cells #[.int .i64 0] 3)).alloc (.cells #[.int .i64 0] 25) = W0 at HB0 ⊢
    go_upto_region 4 with (go_at_call 16; (with_reducible refine (HSC.out _ HB0.out.bel).mono ?_); go_must (rintro e w1 ⟨v, rfl, ho, hb⟩; obtain ⟨A, k, rfl⟩ := own_form ho; dsimp only; have HB1 := Lib.hid (HB0.out.after hb); obtain ⟨-, x1, x2⟩ := HB1.out.cells; obtain ⟨f0, f1, f2⟩ := HB1.out.frees; have HB3 := Lib.hid ((HB1.out.set1 0).set2 0); have HO3 : Hid (OwnT ((w1.setCell ⟨w.heap.size + 1, 0, none⟩ (.int .i64 0)).setCell ⟨w.heap.size + 1 + 1, 0, none⟩ (.int .i64 0)) W0.heap.size (.slice A l.length k) l) := Lib.hid (by unfold OwnT at ho ⊢; exact own_other (own_other ho HB1.out.b1 (by decide) 0 (.int .i64 0)) (HB1.out.set1 0).b2 (by decide) 0 (.int .i64 0)); clear ho hb))
    generalize (w1.setCell ⟨w.heap.size + 1, 0, none⟩ (.int .i64 0)).setCell ⟨w.heap.size + 1 + 1, 0, none⟩ (.int .i64 0) = W1 at HB3 HO3 ⊢
    clear x1 x2 f0 f1 f2
    have HRC := Lib.hid (reader_in (fin := (s.size : Int)) (HE.out.below HB3.out.bel) HO3.out HTK.out)
    have HBW := Lib.hid (HB3.out.after (below_of_alloc (X := W1) (.cells #[.slice A l.length k, .int .i64 0, .int .i64 (s.size : Int)] 47)))
    have HGW : Hid (w.heap.size + 1 + 1 < W1.heap.size) := Lib.hid HB3.out.b2.lt
    have HW : Hid (Calls Tryz.prog 18 #[.pointer (some ⟨W1.heap.size, 0, none⟩)] (W1.alloc (.cells #[.slice A l.length k, .int .i64 0, .int .i64 (s.size : Int)] 47)) (ThrewR (W1.alloc (.cells #[.slice A l.length k, .int .i64 0, .int .i64 (s.size : Int)] 47)) W1.heap.size (placeV l' (S.length : Int)))) := Lib.hid (by
      have := whole_any _ _ _ _ _ _ HRC.out HTK.out.ints
      rw [HRD.out] at this
      rw [← HFIN.out]
      exact this)
    go_wp2_with (go_at_call 18; (with_reducible refine HW.out.mono ?_); go_must (rintro e w3 ⟨rfl, hg3⟩; have HB4 := Lib.hid (HBW.out.kept hg3 HGW.out); clear hg3))
    refine leaves_cons (f := 17) (args := #[.pointer (some ⟨w.heap.size, 0, none⟩), .pointer (some ⟨w.heap.size + 1, 0, none⟩), .pointer (some ⟨w.heap.size + 1 + 1, 0, none⟩)]) (by simp) (by simp [go_sem]) ?_
    refine (catch_someE w.heap.size (w.heap.size + 1) (w.heap.size + 1 + 1) _ w3 HB4.out.b0 HB4.out.b1 HB4.out.b2 (by omega) (by omega) (by omega)).mono ?_
    rintro e u' w9 ⟨rfl, rfl, ⟨b0, b1, b2⟩, hkp⟩
    have y0 := (b0.cell 0).trans (show _ = some (.slice none 0 0) from rfl)
    have y1 := (b1.cell 0).trans (show _ = some (.int .i64 (placeV l' (S.length : Int))) from rfl)
    have y2 := (b2.cell 0).trans (show _ = some (.int .i64 80) from rfl)
    have HEnd := hkp w (Nat.le_refl _) (by omega) (by omega) HB4.out.bel
    simp only [Leaves, settle]
    exact ⟨.tuple #[.agg #[.slice none 0 0], .int .i64 (placeV l' (S.length : Int)), .int .i64 80], by simp [results, Tryz.results8, go_sem, y0, y1, y2], none, 0, [], rfl, rfl, GL.start _ _ _ _ _ _, HEnd⟩
  | ok t =>
    rw [hrd] at hpv
    have HRD := Lib.hid hrd
    clear hrd hfin
    by_cases hbig : 256 < t.size ∨ 32 < t.depth
    · dsimp only at hpv
      rw [if_pos hbig] at hpv
      rw [hpv]
      dsimp only
      clear hpv
      by_cases h1 : 256 < t.size
      · have q1 : decide ((256 : Int) < (t.size : Int)) = true := decide_eq_true (by omega)
        clear hbig h1
        go_enter_defers Tryz.func8, Tryz.ntmps8
        go_upto_region 1 with (fail)
        generalize ((w.alloc (.cells #[.slice none 0 0] 24)).alloc (.cells #[.int .i64 0] 3)).alloc (.cells #[.int .i64 0] 25) = W0 at HB0 ⊢
        go_upto_region 4 with (go_at_call 16; (with_reducible refine (HSC.out _ HB0.out.bel).mono ?_); go_must (rintro e w1 ⟨v, rfl, ho, hb⟩; obtain ⟨A, k, rfl⟩ := own_form ho; dsimp only; have HB1 := Lib.hid (HB0.out.after hb); obtain ⟨-, x1, x2⟩ := HB1.out.cells; obtain ⟨f0, f1, f2⟩ := HB1.out.frees; have HB3 := Lib.hid ((HB1.out.set1 0).set2 0); have HO3 : Hid (OwnT ((w1.setCell ⟨w.heap.size + 1, 0, none⟩ (.int .i64 0)).setCell ⟨w.heap.size + 1 + 1, 0, none⟩ (.int .i64 0)) W0.heap.size (.slice A l.length k) l) := Lib.hid (by unfold OwnT at ho ⊢; exact own_other (own_other ho HB1.out.b1 (by decide) 0 (.int .i64 0)) (HB1.out.set1 0).b2 (by decide) 0 (.int .i64 0)); clear ho hb))
        generalize (w1.setCell ⟨w.heap.size + 1, 0, none⟩ (.int .i64 0)).setCell ⟨w.heap.size + 1 + 1, 0, none⟩ (.int .i64 0) = W1 at HB3 HO3 ⊢
        clear x1 x2 f0 f1 f2
        have HRC := Lib.hid (reader_in (fin := (s.size : Int)) (HE.out.below HB3.out.bel) HO3.out HTK.out)
        have HBW := Lib.hid (HB3.out.after (below_of_alloc (X := W1) (.cells #[.slice A l.length k, .int .i64 0, .int .i64 (s.size : Int)] 47)))
        have HGW : Hid (w.heap.size + 1 + 1 < W1.heap.size) := Lib.hid HB3.out.b2.lt
        have HW : Hid (Calls Tryz.prog 18 #[.pointer (some ⟨W1.heap.size, 0, none⟩)] (W1.alloc (.cells #[.slice A l.length k, .int .i64 0, .int .i64 (s.size : Int)] 47)) (WholePost (W1.alloc (.cells #[.slice A l.length k, .int .i64 0, .int .i64 (s.size : Int)] 47)) W1.heap.size (s.size : Int) (.ok t))) := Lib.hid (by
          have := whole_any _ _ _ _ _ _ HRC.out HTK.out.ints
          rw [HRD.out] at this
          exact this)
        go_upto_region 7 with (go_at_call 18; (with_reducible refine HW.out.mono ?_); go_must (rintro e w3 ⟨b, rfl, hT, hg3⟩; have HB4 := Lib.hid (HBW.out.kept hg3 HGW.out); have HT := Lib.hid hT; have hgz := hg3.size; clear hg3))
        obtain ⟨v9, qs9, hb9, hbk9, hpr9, hts9⟩ := HT.out
        have c5 := (hbk9.cell 5).trans (show _ = some (.int .i64 (t.size : Int)) from rfl)
        have c6 := (hbk9.cell 6).trans (show _ = some (.int .i64 (t.depth : Int)) from rfl)
        have HZW : Hid (W1.heap.size < w3.heap.size) := Lib.hid (by simp at hgz; omega)
        clear hbk9 hpr9 hts9 hb9 hgz
        obtain ⟨x0, x1, x2⟩ := HB4.out.cells
        obtain ⟨f0, f1, f2⟩ := HB4.out.frees
        go_wp2_with fail
        have HB6 := Lib.hid (((HB4.out.set0 (.slice none 0 0)).set1 0).set2 4)
        generalize ((w3.setCell ⟨w.heap.size, 0, none⟩ (.slice none 0 0)).setCell ⟨w.heap.size + 1, 0, none⟩ (.int .i64 0)).setCell ⟨w.heap.size + 1 + 1, 0, none⟩ (.int .i64 4) = w6 at HB6 ⊢
        refine leaves_cons (f := 17) (args := #[.pointer (some ⟨w.heap.size, 0, none⟩), .pointer (some ⟨w.heap.size + 1, 0, none⟩), .pointer (some ⟨w.heap.size + 1 + 1, 0, none⟩)]) (by simp) (by simp [go_sem]) ?_
        refine (catch_noneE w.heap.size (w.heap.size + 1) (w.heap.size + 1 + 1) w6).mono ?_
        rintro e u' w9 ⟨rfl, rfl, hb⟩
        obtain ⟨y0, y1, y2⟩ := (HB6.out.after hb).cells
        simp only [Leaves, settle]
        exact ⟨.tuple #[.agg #[.slice none 0 0], .int .i64 0, .int .i64 4], by simp [results, Tryz.results8, go_sem, y0, y1, y2], none, 0, [], rfl, rfl, GL.start _ _ _ _ _ _, (HB6.out.after hb).bel⟩
      · have q1 : decide ((256 : Int) < (t.size : Int)) = false := decide_eq_false (by omega)
        have q2 : decide ((32 : Int) < (t.depth : Int)) = true := decide_eq_true (by omega)
        clear hbig h1
        go_enter_defers Tryz.func8, Tryz.ntmps8
        go_upto_region 1 with (fail)
        generalize ((w.alloc (.cells #[.slice none 0 0] 24)).alloc (.cells #[.int .i64 0] 3)).alloc (.cells #[.int .i64 0] 25) = W0 at HB0 ⊢
        go_upto_region 4 with (go_at_call 16; (with_reducible refine (HSC.out _ HB0.out.bel).mono ?_); go_must (rintro e w1 ⟨v, rfl, ho, hb⟩; obtain ⟨A, k, rfl⟩ := own_form ho; dsimp only; have HB1 := Lib.hid (HB0.out.after hb); obtain ⟨-, x1, x2⟩ := HB1.out.cells; obtain ⟨f0, f1, f2⟩ := HB1.out.frees; have HB3 := Lib.hid ((HB1.out.set1 0).set2 0); have HO3 : Hid (OwnT ((w1.setCell ⟨w.heap.size + 1, 0, none⟩ (.int .i64 0)).setCell ⟨w.heap.size + 1 + 1, 0, none⟩ (.int .i64 0)) W0.heap.size (.slice A l.length k) l) := Lib.hid (by unfold OwnT at ho ⊢; exact own_other (own_other ho HB1.out.b1 (by decide) 0 (.int .i64 0)) (HB1.out.set1 0).b2 (by decide) 0 (.int .i64 0)); clear ho hb))
        generalize (w1.setCell ⟨w.heap.size + 1, 0, none⟩ (.int .i64 0)).setCell ⟨w.heap.size + 1 + 1, 0, none⟩ (.int .i64 0) = W1 at HB3 HO3 ⊢
        clear x1 x2 f0 f1 f2
        have HRC := Lib.hid (reader_in (fin := (s.size : Int)) (HE.out.below HB3.out.bel) HO3.out HTK.out)
        have HBW := Lib.hid (HB3.out.after (below_of_alloc (X := W1) (.cells #[.slice A l.length k, .int .i64 0, .int .i64 (s.size : Int)] 47)))
        have HGW : Hid (w.heap.size + 1 + 1 < W1.heap.size) := Lib.hid HB3.out.b2.lt
        have HW : Hid (Calls Tryz.prog 18 #[.pointer (some ⟨W1.heap.size, 0, none⟩)] (W1.alloc (.cells #[.slice A l.length k, .int .i64 0, .int .i64 (s.size : Int)] 47)) (WholePost (W1.alloc (.cells #[.slice A l.length k, .int .i64 0, .int .i64 (s.size : Int)] 47)) W1.heap.size (s.size : Int) (.ok t))) := Lib.hid (by
          have := whole_any _ _ _ _ _ _ HRC.out HTK.out.ints
          rw [HRD.out] at this
          exact this)
        go_upto_region 7 with (go_at_call 18; (with_reducible refine HW.out.mono ?_); go_must (rintro e w3 ⟨b, rfl, hT, hg3⟩; have HB4 := Lib.hid (HBW.out.kept hg3 HGW.out); have HT := Lib.hid hT; have hgz := hg3.size; clear hg3))
        obtain ⟨v9, qs9, hb9, hbk9, hpr9, hts9⟩ := HT.out
        have c5 := (hbk9.cell 5).trans (show _ = some (.int .i64 (t.size : Int)) from rfl)
        have c6 := (hbk9.cell 6).trans (show _ = some (.int .i64 (t.depth : Int)) from rfl)
        have HZW : Hid (W1.heap.size < w3.heap.size) := Lib.hid (by simp at hgz; omega)
        clear hbk9 hpr9 hts9 hb9 hgz
        obtain ⟨x0, x1, x2⟩ := HB4.out.cells
        obtain ⟨f0, f1, f2⟩ := HB4.out.frees
        go_wp2_with fail
        have HB6 := Lib.hid (((HB4.out.set0 (.slice none 0 0)).set1 0).set2 4)
        generalize ((w3.setCell ⟨w.heap.size, 0, none⟩ (.slice none 0 0)).setCell ⟨w.heap.size + 1, 0, none⟩ (.int .i64 0)).setCell ⟨w.heap.size + 1 + 1, 0, none⟩ (.int .i64 4) = w6 at HB6 ⊢
        refine leaves_cons (f := 17) (args := #[.pointer (some ⟨w.heap.size, 0, none⟩), .pointer (some ⟨w.heap.size + 1, 0, none⟩), .pointer (some ⟨w.heap.size + 1 + 1, 0, none⟩)]) (by simp) (by simp [go_sem]) ?_
        refine (catch_noneE w.heap.size (w.heap.size + 1) (w.heap.size + 1 + 1) w6).mono ?_
        rintro e u' w9 ⟨rfl, rfl, hb⟩
        obtain ⟨y0, y1, y2⟩ := (HB6.out.after hb).cells
        simp only [Leaves, settle]
        exact ⟨.tuple #[.agg #[.slice none 0 0], .int .i64 0, .int .i64 4], by simp [results, Tryz.results8, go_sem, y0, y1, y2], none, 0, [], rfl, rfl, GL.start _ _ _ _ _ _, (HB6.out.after hb).bel⟩
    · dsimp only at hpv
      rw [if_neg hbig] at hpv
      rw [hpv]
      dsimp only
      clear hpv
      have q1 : decide ((256 : Int) < (t.size : Int)) = false := decide_eq_false (by omega)
      have q2 : decide ((32 : Int) < (t.depth : Int)) = false := decide_eq_false (by omega)
      have hz : t.size ≤ 1000000 := by omega
      clear hbig
      go_enter_defers Tryz.func8, Tryz.ntmps8
      go_upto_region 1 with (fail)
      generalize ((w.alloc (.cells #[.slice none 0 0] 24)).alloc (.cells #[.int .i64 0] 3)).alloc (.cells #[.int .i64 0] 25) = W0 at HB0 ⊢
      go_upto_region 4 with (go_at_call 16; (with_reducible refine (HSC.out _ HB0.out.bel).mono ?_); go_must (rintro e w1 ⟨v, rfl, ho, hb⟩; obtain ⟨A, k, rfl⟩ := own_form ho; dsimp only; have HB1 := Lib.hid (HB0.out.after hb); obtain ⟨-, x1, x2⟩ := HB1.out.cells; obtain ⟨f0, f1, f2⟩ := HB1.out.frees; have HB3 := Lib.hid ((HB1.out.set1 0).set2 0); have HO3 : Hid (OwnT ((w1.setCell ⟨w.heap.size + 1, 0, none⟩ (.int .i64 0)).setCell ⟨w.heap.size + 1 + 1, 0, none⟩ (.int .i64 0)) W0.heap.size (.slice A l.length k) l) := Lib.hid (by unfold OwnT at ho ⊢; exact own_other (own_other ho HB1.out.b1 (by decide) 0 (.int .i64 0)) (HB1.out.set1 0).b2 (by decide) 0 (.int .i64 0)); clear ho hb))
      generalize (w1.setCell ⟨w.heap.size + 1, 0, none⟩ (.int .i64 0)).setCell ⟨w.heap.size + 1 + 1, 0, none⟩ (.int .i64 0) = W1 at HB3 HO3 ⊢
      clear x1 x2 f0 f1 f2
      have HRC := Lib.hid (reader_in (fin := (s.size : Int)) (HE.out.below HB3.out.bel) HO3.out HTK.out)
      have HBW := Lib.hid (HB3.out.after (below_of_alloc (X := W1) (.cells #[.slice A l.length k, .int .i64 0, .int .i64 (s.size : Int)] 47)))
      have HGW : Hid (w.heap.size + 1 + 1 < W1.heap.size) := Lib.hid HB3.out.b2.lt
      have HW : Hid (Calls Tryz.prog 18 #[.pointer (some ⟨W1.heap.size, 0, none⟩)] (W1.alloc (.cells #[.slice A l.length k, .int .i64 0, .int .i64 (s.size : Int)] 47)) (WholePost (W1.alloc (.cells #[.slice A l.length k, .int .i64 0, .int .i64 (s.size : Int)] 47)) W1.heap.size (s.size : Int) (.ok t))) := Lib.hid (by
        have := whole_any _ _ _ _ _ _ HRC.out HTK.out.ints
        rw [HRD.out] at this
        exact this)
      go_upto_region 7 with (go_at_call 18; (with_reducible refine HW.out.mono ?_); go_must (rintro e w3 ⟨b, rfl, hT, hg3⟩; have HB4 := Lib.hid (HBW.out.kept hg3 HGW.out); have HT := Lib.hid hT; have hgz := hg3.size; clear hg3))
      obtain ⟨v9, qs9, hb9, hbk9, hpr9, hts9⟩ := HT.out
      have c5 := (hbk9.cell 5).trans (show _ = some (.int .i64 (t.size : Int)) from rfl)
      have c6 := (hbk9.cell 6).trans (show _ = some (.int .i64 (t.depth : Int)) from rfl)
      have HZW : Hid (W1.heap.size < w3.heap.size) := Lib.hid (by simp at hgz; omega)
      have HL : Hid (Calls Tryz.prog 19 #[.pointer (some ⟨b, 0, none⟩)] w3 (ListPost w3 t.list)) := Lib.hid (list_any w3 _ b t HT.out hz)
      clear hbk9 hpr9 hts9 hb9 hgz
      go_wp2_with (go_at_call 19; (with_reducible refine HL.out.mono ?_); go_must (rintro e w5 ⟨A9, c9, m9, rfl, hn, hG, hb⟩; have HB5 := Lib.hid (HB4.out.after hb); have HN := Lib.hid hn; have HG := Lib.hid hG; obtain ⟨x0, x1, x2⟩ := HB5.out.cells; obtain ⟨f0, f1, f2⟩ := HB5.out.frees; clear hn hG hb))
      have HB6 := Lib.hid (((HB5.out.set0 (.slice A9 m9.length c9)).set1 0).set2 0)
      have HG6 : Hid (GE w.heap.size (.slice A9 m9.length c9) m9 (((w5.setCell ⟨w.heap.size, 0, none⟩ (.slice A9 m9.length c9)).setCell ⟨w.heap.size + 1, 0, none⟩ (.int .i64 0)).setCell ⟨w.heap.size + 1 + 1, 0, none⟩ (.int .i64 0))) := Lib.hid (by
        have h1 := HGW.out
        have h2 := HZW.out
        exact GE.mono (GE.low (GE.low (GE.low HG.out grown_set (by omega)) grown_set (by omega)) grown_set (by omega)) (by omega))
      generalize ((w5.setCell ⟨w.heap.size, 0, none⟩ (.slice A9 m9.length c9)).setCell ⟨w.heap.size + 1, 0, none⟩ (.int .i64 0)).setCell ⟨w.heap.size + 1 + 1, 0, none⟩ (.int .i64 0) = w6 at HB6 HG6 ⊢
      refine leaves_cons (f := 17) (args := #[.pointer (some ⟨w.heap.size, 0, none⟩), .pointer (some ⟨w.heap.size + 1, 0, none⟩), .pointer (some ⟨w.heap.size + 1 + 1, 0, none⟩)]) (by simp) (by simp [go_sem]) ?_
      refine (catch_noneE w.heap.size (w.heap.size + 1) (w.heap.size + 1 + 1) w6).mono ?_
      rintro e u' w9 ⟨rfl, rfl, hb⟩
      obtain ⟨y0, y1, y2⟩ := (HB6.out.after hb).cells
      simp only [Leaves, settle]
      exact ⟨.tuple #[.agg #[.slice A9 m9.length c9], .int .i64 0, .int .i64 0], by simp [results, Tryz.results8, go_sem, y0, y1, y2], A9, c9, m9, rfl, HN.out, HG6.out.after enOK hb, (HB6.out.after hb).bel⟩
theorem exprParse_any (w : World) (s : ByteArray) (hs : s.size ≤ 140737488355328) (hE : ExprEnv w) (hV : ScanEnv w) : Calls Tryz.prog 8 #[.string s] w (ParsePost w (exprR s.data.toList)) := by
  rcases scanR_cases s.data.toList with ⟨_, hr⟩ | ⟨_, m, _, hr⟩ | ⟨_, n, _, hr⟩
  · exact parse_lexErr w s hs hE hV _ rfl (by rw [hr]; decide)
  · exact parse_toks w s hs hE hV _ rfl m hr
  · exact parse_lexErr w s hs hE hV _ rfl (by rw [hr]; show ¬ (70 : Int) = 0; decide)
end Go.Proofs.YtckfcpiedainfaaGreatDoor

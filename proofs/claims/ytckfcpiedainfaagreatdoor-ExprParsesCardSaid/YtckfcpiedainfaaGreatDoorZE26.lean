/-
  WALKS over package expr's reader: prim, where no word begins it.
  WALKS over package expr's reader: prim, where a mark or a word begins it.
-/
import Derived.Test.YtckfcpiedainfaaGreatDoorZE25
import Derived.Laws.EntriesVeiled
namespace Go.Proofs.YtckfcpiedainfaaGreatDoor
open Go Go.RowKit Go.Sort
set_option linter.unusedVariables false
section
variable {w X : World} {g c p : Nat} {A : Option Addr} {all : List Tok} {fin : Int} {ts : List (Nat × Tr)}
theorem St.is_ (w : World) (fin : Int) (A : Option Addr) (c g p : Nat) (all : List Tok) (s : ByteArray) {b : Bool} (hb : isM (all.drop p) s.data.toList = b) : Hid (∀ ts X, St w g A c all fin ts p X → Calls Tryz.prog 139 #[.pointer (some ⟨g, 0, none⟩), .string s] X (fun e X' => e = .returned (.bool b) ∧ St w g A c all fin ts p X')) :=
  Lib.hid fun ts X hS => (is_any X g c p A all fin hS.rd.rd s).mono fun e X' hh => ⟨by rw [← hb]; exact hh.1, hS.below hh.2⟩
theorem St.has_ (w : World) (fin : Int) (A : Option Addr) (c g p : Nat) (all : List Tok) (k : Int) {b : Bool} (hb : hasK (all.drop p) k = b) : Hid (∀ ts X, St w g A c all fin ts p X → Calls Tryz.prog 95 #[.pointer (some ⟨g, 0, none⟩), .int .i64 k] X (fun e X' => e = .returned (.bool b) ∧ St w g A c all fin ts p X')) :=
  Lib.hid fun ts X hS => (has_any X g c p A all fin k hS.rd.rd).mono fun e X' hh => ⟨by rw [← hb]; exact hh.1, hS.below hh.2⟩
theorem St.takeNo (w : World) (fin : Int) (A : Option Addr) (c g p : Nat) (all : List Tok) (k : Int) (hb : hasK (all.drop p) k = false) : Hid (∀ ts X, St w g A c all fin ts p X → Calls Tryz.prog 142 #[.pointer (some ⟨g, 0, none⟩), .int .i64 k] X (ThrewR w g (placeV (all.drop p) fin))) :=
  Lib.hid fun ts X hS => (take_any X g c p A all fin k hS.rd.rd).mono fun e X' hh => hS.threw (by
    revert hb hh
    cases all.drop p with
    | nil => intro _ hh; exact hh
    | cons t r =>
      intro hb hh
      have hk : ¬ t.kind = k := by simpa [hasK] using hb
      have hh' : if t.kind = k then _ else _ := hh
      rwa [if_neg hk] at hh')
theorem St.takeYes (w : World) (fin : Int) (A : Option Addr) (c g p : Nat) (all : List Tok) {t : Tok} {r : List Tok} (hl : all.drop p = t :: r) : Hid (∀ ts X, St w g A c all fin ts p X → Calls Tryz.prog 142 #[.pointer (some ⟨g, 0, none⟩), .int .i64 t.kind] X (fun e X' => e = .returned (.agg #[.int .i64 t.kind, .string t.text, .int .i64 t.int, .int .i64 t.place]) ∧ St w g A c all fin ts (p + 1) X')) :=
  Lib.hid fun ts X hS => (take_any X g c p A all fin t.kind hS.rd.rd).mono fun e X' hh => by
    rw [hl] at hh
    have hh' : if t.kind = t.kind then _ else _ := hh
    rw [if_pos rfl] at hh'
    obtain ⟨e1, hw⟩ := hh'
    obtain ⟨p2, e2, h5, h6⟩ := hS.rd.went hw
    have hlt : p < all.length := by
      rcases Nat.lt_or_ge p all.length with hp | hp
      · exact hp
      · rw [List.drop_eq_nil_of_le hp] at hl; cases hl
    have e3 : all.drop (p + 1) = all.drop p2 := by rw [← e2, ← drop_one, hl]; rfl
    obtain rfl := drop_inj hlt h5.rd.le e3
    exact ⟨e1, hS.step h5 h6⟩
/-- the reader steps on -/
theorem St.inc (h : St w g A c all fin ts p X) (hp : p < all.length) : St w g A c all fin ts (p + 1) (X.setCell ⟨g, 1, none⟩ (.int .i64 ((p : Int) + 1))) := by
  have hg : X.grownBy (X.setCell ⟨g, 1, none⟩ (.int .i64 ((p : Int) + 1))) (some g) := grown_set
  refine h.step ⟨h.rd.rd.kept hg (by omega) ?_, h.rd.env.kept hg h.rd.g64 h.rd.rd.blk.lt, h.rd.g64⟩ hg
  have := h.rd.rd.blk.set_ 1 (.int .i64 ((p : Int) + 1))
  simpa using this
theorem St.cell1 (h : St w g A c all fin ts p X) : X.cell? ⟨g, 1, none⟩ = some (.int .i64 p) ∧ X.frozen? ⟨g, 1, none⟩ = false := ⟨(h.rd.rd.blk.cell 1).trans rfl, h.rd.rd.blk.frozen 1⟩
end
theorem prim_eq (l : List Tok) : rdX (.lv 8) l = primV rdX l := by rw [rdX_lv (n := 8) ⟨by decide, by decide⟩]; rfl
theorem hasK_cons (t : Tok) (r : List Tok) (k : Int) : hasK (t :: r) k = (t.kind == k) := rfl
set_option maxHeartbeats 1600000 in
set_option maxRecDepth 20000 in
/-- an int, a text, a name, none of these -/
theorem prim_low (w : World) (g c p : Nat) (A : Option Addr) (all : List Tok) (fin : Int) (h : RdC w g A c all fin p) (hk : signK 8 (all.drop p) = none) (hm1 : isM (all.drop p) [40] = false) (hm2 : isM (all.drop p) [45] = false) (V : Rd)
    (hV : (∃ t r, all.drop p = t :: r ∧ t.kind = 1 ∧ V = .ok (.leaf 1 ByteArray.empty t.int, all.drop (p + 1))) ∨ (∃ t r, all.drop p = t :: r ∧ t.kind = 2 ∧ V = .ok (.leaf 2 t.text 0, all.drop (p + 1))) ∨ (∃ t r, all.drop p = t :: r ∧ t.kind = 3 ∧ V = .ok (.leaf 7 t.text 0, all.drop (p + 1))) ∨ (hasK (all.drop p) 1 = false ∧ hasK (all.drop p) 2 = false ∧ hasK (all.drop p) 3 = false ∧ V = .error (all.drop p))) :
    Calls Tryz.prog 133 #[.pointer (some ⟨g, 0, none⟩)] w (RPost w g A c all fin V) := by
  have HS := Lib.hid (St.start h)
  have HSN := St.signNo w fin A c g hk
  have HI1 := St.is_ w fin A c g p all ⟨#[40]⟩ (b := false) hm1
  have HI2 := St.is_ w fin A c g p all ⟨#[45]⟩ (b := false) hm2
  clear h hk hm1 hm2
  rcases hV with ⟨t, r, hl, h1, rfl⟩ | ⟨t, r, hl, h1, rfl⟩ | ⟨t, r, hl, h1, rfl⟩ | ⟨h1, h2, h3, rfl⟩
  · have HT := St.takeYes w fin A c g p all hl
    have HH := St.has_ w fin A c g p all 1 (b := true) (by rw [hl, hasK_cons, h1]; rfl)
    have hfd := fun w => tok_int t.kind t.int t.place t.text w
    rw [h1] at HT hfd
    clear hl h1
    go_enter Tryz.func133, Tryz.ntmps133
    go_wp2_with (first | (go_at_call 79; (with_reducible refine (HSN.out _ _ HS.out).mono ?_); rintro e w1 ⟨rfl, hS1⟩; have HS1 := Lib.hid hS1; clear hS1) | (go_at_call 139; (with_reducible refine (HI2.out _ _ HS2.out).mono ?_); rintro e w3 ⟨rfl, hS3⟩; have HS3 := Lib.hid hS3; clear hS3) | (go_at_call 139; (with_reducible refine (HI1.out _ _ HS1.out).mono ?_); rintro e w2 ⟨rfl, hS2⟩; have HS2 := Lib.hid hS2; clear hS2) | (go_at_call 95; (with_reducible refine (HH.out _ _ HS3.out).mono ?_); rintro e w4 ⟨rfl, hS4⟩; have HS4 := Lib.hid hS4; clear hS4) | (go_at_call 142; (with_reducible refine (HT.out _ _ HS4.out).mono ?_); rintro e w5 ⟨rfl, hS5⟩; have HS5 := Lib.hid hS5; clear hS5) | (go_at_call 141; (with_reducible refine (HS5.out.newI _).mono ?_); rintro e w6 ⟨b6, rfl, hS6⟩; have HS6 := Lib.hid hS6; clear hS6))
    go_ret
    exact HS6.out.done
  · have HT := St.takeYes w fin A c g p all hl
    have HH := St.has_ w fin A c g p all 1 (b := false) (by rw [hl, hasK_cons, h1]; rfl)
    have HH2 := St.has_ w fin A c g p all 2 (b := true) (by rw [hl, hasK_cons, h1]; rfl)
    have hfd := fun w => tok_text t.kind t.int t.place t.text w
    rw [h1] at HT hfd
    clear hl h1
    go_enter Tryz.func133, Tryz.ntmps133
    go_wp2_with (first | (go_at_call 79; (with_reducible refine (HSN.out _ _ HS.out).mono ?_); rintro e w1 ⟨rfl, hS1⟩; have HS1 := Lib.hid hS1; clear hS1) | (go_at_call 139; (with_reducible refine (HI2.out _ _ HS2.out).mono ?_); rintro e w3 ⟨rfl, hS3⟩; have HS3 := Lib.hid hS3; clear hS3) | (go_at_call 139; (with_reducible refine (HI1.out _ _ HS1.out).mono ?_); rintro e w2 ⟨rfl, hS2⟩; have HS2 := Lib.hid hS2; clear hS2) | (go_at_call 95; (with_reducible refine (HH2.out _ _ HS4.out).mono ?_); rintro e w5 ⟨rfl, hS5⟩; have HS5 := Lib.hid hS5; clear hS5) | (go_at_call 95; (with_reducible refine (HH.out _ _ HS3.out).mono ?_); rintro e w4 ⟨rfl, hS4⟩; have HS4 := Lib.hid hS4; clear hS4) | (go_at_call 142; (with_reducible refine (HT.out _ _ HS5.out).mono ?_); rintro e w6 ⟨rfl, hS6⟩; have HS6 := Lib.hid hS6; clear hS6) | (go_at_call 80; (with_reducible refine (HS6.out.new0 _ _).mono ?_); rintro e w7 ⟨b7, rfl, hS7⟩; have HS7 := Lib.hid hS7; clear hS7))
    go_ret
    exact HS7.out.done
  · have HT := St.takeYes w fin A c g p all hl
    have HH := St.has_ w fin A c g p all 1 (b := false) (by rw [hl, hasK_cons, h1]; rfl)
    have HH2 := St.has_ w fin A c g p all 2 (b := false) (by rw [hl, hasK_cons, h1]; rfl)
    have hfd := fun w => tok_text t.kind t.int t.place t.text w
    rw [h1] at HT hfd
    clear hl h1
    go_enter Tryz.func133, Tryz.ntmps133
    go_wp2_with (first | (go_at_call 79; (with_reducible refine (HSN.out _ _ HS.out).mono ?_); rintro e w1 ⟨rfl, hS1⟩; have HS1 := Lib.hid hS1; clear hS1) | (go_at_call 139; (with_reducible refine (HI2.out _ _ HS2.out).mono ?_); rintro e w3 ⟨rfl, hS3⟩; have HS3 := Lib.hid hS3; clear hS3) | (go_at_call 139; (with_reducible refine (HI1.out _ _ HS1.out).mono ?_); rintro e w2 ⟨rfl, hS2⟩; have HS2 := Lib.hid hS2; clear hS2) | (go_at_call 95; (with_reducible refine (HH2.out _ _ HS4.out).mono ?_); rintro e w5 ⟨rfl, hS5⟩; have HS5 := Lib.hid hS5; clear hS5) | (go_at_call 95; (with_reducible refine (HH.out _ _ HS3.out).mono ?_); rintro e w4 ⟨rfl, hS4⟩; have HS4 := Lib.hid hS4; clear hS4) | (go_at_call 142; (with_reducible refine (HT.out _ _ HS5.out).mono ?_); rintro e w6 ⟨rfl, hS6⟩; have HS6 := Lib.hid hS6; clear hS6) | (go_at_call 80; (with_reducible refine (HS6.out.new0 _ _).mono ?_); rintro e w7 ⟨b7, rfl, hS7⟩; have HS7 := Lib.hid hS7; clear hS7))
    go_ret
    exact HS7.out.done
  · have HH := St.has_ w fin A c g p all 1 (b := false) h1
    have HH2 := St.has_ w fin A c g p all 2 (b := false) h2
    have HT := St.takeNo w fin A c g p all 3 h3
    clear h1 h2 h3
    go_enter Tryz.func133, Tryz.ntmps133
    go_wp2_with (first | (go_at_call 79; (with_reducible refine (HSN.out _ _ HS.out).mono ?_); rintro e w1 ⟨rfl, hS1⟩; have HS1 := Lib.hid hS1; clear hS1) | (go_at_call 139; (with_reducible refine (HI2.out _ _ HS2.out).mono ?_); rintro e w3 ⟨rfl, hS3⟩; have HS3 := Lib.hid hS3; clear hS3) | (go_at_call 139; (with_reducible refine (HI1.out _ _ HS1.out).mono ?_); rintro e w2 ⟨rfl, hS2⟩; have HS2 := Lib.hid hS2; clear hS2) | (go_at_call 95; (with_reducible refine (HH2.out _ _ HS4.out).mono ?_); rintro e w5 ⟨rfl, hS5⟩; have HS5 := Lib.hid hS5; clear hS5) | (go_at_call 95; (with_reducible refine (HH.out _ _ HS3.out).mono ?_); rintro e w4 ⟨rfl, hS4⟩; have HS4 := Lib.hid hS4; clear hS4) | (go_at_call 142; (with_reducible refine (HT.out _ _ HS5.out).mono ?_); rintro e w6 ⟨rfl, hg6⟩))
    exact ⟨rfl, rfl, hg6⟩
end Go.Proofs.YtckfcpiedainfaaGreatDoor
namespace Go.Proofs.YtckfcpiedainfaaGreatDoor
open Go Go.RowKit Go.Sort
set_option linter.unusedVariables false
set_option maxHeartbeats 1600000 in
set_option maxRecDepth 20000 in
/-- brackets -/
theorem prim_open (w : World) (g c p : Nat) (A : Option Addr) (all : List Tok) (fin : Int) (h : RdC w g A c all fin p) (HO : LvF g A c all fin 32 1 (p + 1)) (hk : signK 8 (all.drop p) = none) (hm1 : isM (all.drop p) [40] = true) (hp : p < all.length) :
    Calls Tryz.prog 133 #[.pointer (some ⟨g, 0, none⟩)] w (RPost w g A c all fin (untilV rdX (all.drop (p + 1)) [41])) := by
  have HS := Lib.hid (St.start h)
  have HSN := St.signNo w fin A c g hk
  have HI1 := St.is_ w fin A c g p all ⟨#[40]⟩ (b := true) hm1
  have hroom := h.rd.room
  have hw1 : IntKind.i64.wrap ((p : Int) + 1) = (p : Int) + 1 := IntWalk.i64_in _ (by omega)
  show Calls _ _ _ _ (RPost w g A c all fin (untilV rdX (all.drop (p + 1)) (⟨#[41]⟩ : ByteArray).data.toList))
  rcases until_read w g c (p + 1) A all fin hroom (by omega) HO ⟨#[41]⟩ with ⟨l', hr, HC⟩ | ⟨t1, p1, hr, hp1, hpl1, hz1, HC⟩
  · rw [hr]
    clear h hk hm1 HO hr
    go_enter Tryz.func133, Tryz.ntmps133
    go_wp2_with (first | (go_at_call 79; (with_reducible refine (HSN.out _ _ HS.out).mono ?_); rintro e w1 ⟨rfl, hS1⟩; have HS1 := Lib.hid hS1; clear hS1) | (go_at_call 139; (with_reducible refine (HI1.out _ _ HS1.out).mono ?_); rintro e w2 ⟨rfl, hS2⟩; have HS2 := Lib.hid hS2; obtain ⟨k1, f1⟩ := hS2.cell1; clear hS2) | (go_at_call 140; (with_reducible refine (HC.out _ _ (HS2.out.inc hp)).mono ?_); rintro e w3 ⟨rfl, hg3⟩))
    exact ⟨rfl, rfl, hg3⟩
  · rw [hr]
    clear h hk hm1 HO hr
    go_enter Tryz.func133, Tryz.ntmps133
    go_wp2_with (first | (go_at_call 79; (with_reducible refine (HSN.out _ _ HS.out).mono ?_); rintro e w1 ⟨rfl, hS1⟩; have HS1 := Lib.hid hS1; clear hS1) | (go_at_call 139; (with_reducible refine (HI1.out _ _ HS1.out).mono ?_); rintro e w2 ⟨rfl, hS2⟩; have HS2 := Lib.hid hS2; obtain ⟨k1, f1⟩ := hS2.cell1; clear hS2) | (go_at_call 140; (with_reducible refine (HC.out _ _ (HS2.out.inc hp)).mono ?_); rintro e w3 ⟨b3, rfl, hS3⟩; have HS3 := Lib.hid hS3; clear hS3))
    go_ret
    exact HS3.out.done
set_option maxHeartbeats 1600000 in
set_option maxRecDepth 20000 in
/-- a minus: an int, or none -/
theorem prim_minus (w : World) (g c p : Nat) (A : Option Addr) (all : List Tok) (fin : Int) (h : RdC w g A c all fin p) (hk : signK 8 (all.drop p) = none) (hm1 : isM (all.drop p) [40] = false) (hm2 : isM (all.drop p) [45] = true) (hp : p < all.length) (V : Rd)
    (hV : (∃ t r, all.drop (p + 1) = t :: r ∧ t.kind = 1 ∧ (-9223372036854775807 ≤ t.int ∧ t.int ≤ 9223372036854775807) ∧ V = .ok (.leaf 1 ByteArray.empty (-t.int), all.drop (p + 1 + 1))) ∨ (hasK (all.drop (p + 1)) 1 = false ∧ V = .error (all.drop (p + 1)))) :
    Calls Tryz.prog 133 #[.pointer (some ⟨g, 0, none⟩)] w (RPost w g A c all fin V) := by
  have HS := Lib.hid (St.start h)
  have HSN := St.signNo w fin A c g hk
  have HI1 := St.is_ w fin A c g p all ⟨#[40]⟩ (b := false) hm1
  have HI2 := St.is_ w fin A c g p all ⟨#[45]⟩ (b := true) hm2
  have hroom := h.rd.room
  have hw1 : IntKind.i64.wrap ((p : Int) + 1) = (p : Int) + 1 := IntWalk.i64_in _ (by omega)
  clear h hk hm1 hm2
  rcases hV with ⟨t, r, hl, h1, hi, rfl⟩ | ⟨h1, rfl⟩
  · have HT := St.takeYes w fin A c g (p + 1) all hl
    have hfd := fun w => tok_int t.kind t.int t.place t.text w
    have hw2 : IntKind.i64.wrap (-t.int) = -t.int := IntWalk.i64_in _ (by omega)
    rw [h1] at HT hfd
    clear hl h1 hi
    go_enter Tryz.func133, Tryz.ntmps133
    go_wp2_with (first | (go_at_call 79; (with_reducible refine (HSN.out _ _ HS.out).mono ?_); rintro e w1 ⟨rfl, hS1⟩; have HS1 := Lib.hid hS1; clear hS1) | (go_at_call 139; (with_reducible refine (HI2.out _ _ HS2.out).mono ?_); rintro e w3 ⟨rfl, hS3⟩; have HS3 := Lib.hid hS3; obtain ⟨k1, f1⟩ := hS3.cell1; clear hS3) | (go_at_call 139; (with_reducible refine (HI1.out _ _ HS1.out).mono ?_); rintro e w2 ⟨rfl, hS2⟩; have HS2 := Lib.hid hS2; clear hS2) | (go_at_call 142; (with_reducible refine (HT.out _ _ (HS3.out.inc hp)).mono ?_); rintro e w4 ⟨rfl, hS4⟩; have HS4 := Lib.hid hS4; clear hS4) | (go_at_call 141; (with_reducible refine (HS4.out.newI _).mono ?_); rintro e w5 ⟨b5, rfl, hS5⟩; have HS5 := Lib.hid hS5; clear hS5))
    go_ret
    exact HS5.out.done
  · have HT := St.takeNo w fin A c g (p + 1) all 1 h1
    clear h1
    go_enter Tryz.func133, Tryz.ntmps133
    go_wp2_with (first | (go_at_call 79; (with_reducible refine (HSN.out _ _ HS.out).mono ?_); rintro e w1 ⟨rfl, hS1⟩; have HS1 := Lib.hid hS1; clear hS1) | (go_at_call 139; (with_reducible refine (HI2.out _ _ HS2.out).mono ?_); rintro e w3 ⟨rfl, hS3⟩; have HS3 := Lib.hid hS3; obtain ⟨k1, f1⟩ := hS3.cell1; clear hS3) | (go_at_call 139; (with_reducible refine (HI1.out _ _ HS1.out).mono ?_); rintro e w2 ⟨rfl, hS2⟩; have HS2 := Lib.hid hS2; clear hS2) | (go_at_call 142; (with_reducible refine (HT.out _ _ (HS3.out.inc hp)).mono ?_); rintro e w4 ⟨rfl, hg4⟩))
    exact ⟨rfl, rfl, hg4⟩
theorem shape_row : ∀ k : Nat, k < 35 → (k = 3 ∨ k = 4 ∨ k = 5 ∨ k = 6 → (signsL[k]?.map (·.shape)) = some 1) ∧ (14 ≤ k ∧ k ≤ 19 → (signsL[k]?.map (·.shape)) = some 2) ∧ (k = 30 → (signsL[k]?.map (·.shape)) = some 3) ∧ (31 ≤ k ∧ k ≤ 34 → (signsL[k]?.map (·.shape)) = some 4) := by decide +kernel
theorem shape_cell {X : World} (hE : ExprEnv X) {k : Nat} {s : Int} (h : (signsL[k]?.map (·.shape)) = some s) : X.cell? ⟨0, k * 5 + 1, none⟩ = some (.int .i64 s) := by
  cases hs : signsL[k]? with
  | none => rw [hs] at h; cases h
  | some x =>
    rw [hs] at h
    injection h with h
    exact sign_cell hE hs (by decide) (by rw [← h]; rfl)
set_option maxHeartbeats 3200000 in
set_option maxRecDepth 20000 in
/-- a word: what stands behind it, by its shape -/
theorem prim_word (w : World) (g c p : Nat) (A : Option Addr) (all : List Tok) (fin : Int) (h : RdC w g A c all fin p) (k : Nat) (hk : signK 8 (all.drop p) = some k) (sh : Int) (hsh : (signsL[k]?.map (·.shape)) = some sh) (F : FuncId) (hF : (sh = 1 ∧ F = 135) ∨ (sh = 2 ∧ F = 136) ∨ (sh = 3 ∧ F = 137) ∨ (sh = 4 ∧ F = 138)) (V : Rd)
    (hen : ∀ args X, Sem.run Tryz.prog (callFunc F args) X = .ok (.enter F args) X) (HR : Reads w g A c all fin 1 F #[.pointer (some ⟨g, 0, none⟩), .int .i64 k] (p + 1) V) :
    Calls Tryz.prog 133 #[.pointer (some ⟨g, 0, none⟩)] w (RPost w g A c all fin V) := by
  have HS := Lib.hid (St.start h)
  have hp := signK_lt hk
  have HSY := St.signYes w fin A c g hk hp
  have hk35 := signAt_lt (n := 8) (s := []) (k := k)
  have hklt : k < 35 := by
    have := (List.getElem?_eq_some_iff.1 (show signsL[k]? = some _ from (Option.map_eq_some_iff.1 hsh).choose_spec.1)).1
    rwa [signs_len] at this
  have hmf : ∀ (fn : Fn) (first cap : Array Value) (w : World), (Instr.makeFunc fn first cap).run Tryz.prog w = .ok (.func fn first cap) w := fun _ _ _ _ => rfl
  have HSC : Hid (∀ X, ExprEnv X → X.cell? ⟨0, k * 5 + 1, none⟩ = some (.int .i64 sh)) := Lib.hid fun X hE => shape_cell hE hsh
  clear h hk hsh hk35
  rcases HR with ⟨l', rfl, HC⟩ | ⟨t1, p1, rfl, hp1, hpl1, hz1, HC⟩
  · rcases hF with ⟨rfl, rfl⟩ | ⟨rfl, rfl⟩ | ⟨rfl, rfl⟩ | ⟨rfl, rfl⟩
    · go_enter Tryz.func133, Tryz.ntmps133
      go_wp2_with (first | (go_at_call 79; (with_reducible refine (HSY.out _ _ HS.out).mono ?_); rintro e w1 ⟨rfl, hS1⟩; have HS1 := Lib.hid hS1; have c0 := HSC.out _ hS1.rd.env; have c1 := fun o => ((below_of_alloc (X := w1) o).cell (World.block_lt_of_cell? w1 _ c0)).trans c0; clear c0 hS1) | ((with_reducible refine (HC.out _ _ (HS1.out.below (below_of_alloc _))).mono ?_); rintro e w2 ⟨rfl, hg2⟩))
      exact ⟨rfl, rfl, hg2⟩
    · go_enter Tryz.func133, Tryz.ntmps133
      go_wp2_with (first | (go_at_call 79; (with_reducible refine (HSY.out _ _ HS.out).mono ?_); rintro e w1 ⟨rfl, hS1⟩; have HS1 := Lib.hid hS1; have c0 := HSC.out _ hS1.rd.env; have c1 := fun o => ((below_of_alloc (X := w1) o).cell (World.block_lt_of_cell? w1 _ c0)).trans c0; clear c0 hS1) | ((with_reducible refine (HC.out _ _ (HS1.out.below (below_of_alloc _))).mono ?_); rintro e w2 ⟨rfl, hg2⟩))
      exact ⟨rfl, rfl, hg2⟩
    · go_enter Tryz.func133, Tryz.ntmps133
      go_wp2_with (first | (go_at_call 79; (with_reducible refine (HSY.out _ _ HS.out).mono ?_); rintro e w1 ⟨rfl, hS1⟩; have HS1 := Lib.hid hS1; have c0 := HSC.out _ hS1.rd.env; have c1 := fun o => ((below_of_alloc (X := w1) o).cell (World.block_lt_of_cell? w1 _ c0)).trans c0; clear c0 hS1) | ((with_reducible refine (HC.out _ _ (HS1.out.below (below_of_alloc _))).mono ?_); rintro e w2 ⟨rfl, hg2⟩))
      exact ⟨rfl, rfl, hg2⟩
    · go_enter Tryz.func133, Tryz.ntmps133
      go_wp2_with (first | (go_at_call 79; (with_reducible refine (HSY.out _ _ HS.out).mono ?_); rintro e w1 ⟨rfl, hS1⟩; have HS1 := Lib.hid hS1; have c0 := HSC.out _ hS1.rd.env; have c1 := fun o => ((below_of_alloc (X := w1) o).cell (World.block_lt_of_cell? w1 _ c0)).trans c0; clear c0 hS1) | ((with_reducible refine (HC.out _ _ (HS1.out.below (below_of_alloc _))).mono ?_); rintro e w2 ⟨rfl, hg2⟩))
      exact ⟨rfl, rfl, hg2⟩
  · rcases hF with ⟨rfl, rfl⟩ | ⟨rfl, rfl⟩ | ⟨rfl, rfl⟩ | ⟨rfl, rfl⟩
    · go_enter Tryz.func133, Tryz.ntmps133
      go_wp2_with (first | (go_at_call 79; (with_reducible refine (HSY.out _ _ HS.out).mono ?_); rintro e w1 ⟨rfl, hS1⟩; have HS1 := Lib.hid hS1; have c0 := HSC.out _ hS1.rd.env; have c1 := fun o => ((below_of_alloc (X := w1) o).cell (World.block_lt_of_cell? w1 _ c0)).trans c0; clear c0 hS1) | ((with_reducible refine (HC.out _ _ (HS1.out.below (below_of_alloc _))).mono ?_); rintro e w2 ⟨b2, rfl, hS2⟩; have HS2 := Lib.hid hS2; clear hS2))
      go_ret
      exact HS2.out.done
    · go_enter Tryz.func133, Tryz.ntmps133
      go_wp2_with (first | (go_at_call 79; (with_reducible refine (HSY.out _ _ HS.out).mono ?_); rintro e w1 ⟨rfl, hS1⟩; have HS1 := Lib.hid hS1; have c0 := HSC.out _ hS1.rd.env; have c1 := fun o => ((below_of_alloc (X := w1) o).cell (World.block_lt_of_cell? w1 _ c0)).trans c0; clear c0 hS1) | ((with_reducible refine (HC.out _ _ (HS1.out.below (below_of_alloc _))).mono ?_); rintro e w2 ⟨b2, rfl, hS2⟩; have HS2 := Lib.hid hS2; clear hS2))
      go_ret
      exact HS2.out.done
    · go_enter Tryz.func133, Tryz.ntmps133
      go_wp2_with (first | (go_at_call 79; (with_reducible refine (HSY.out _ _ HS.out).mono ?_); rintro e w1 ⟨rfl, hS1⟩; have HS1 := Lib.hid hS1; have c0 := HSC.out _ hS1.rd.env; have c1 := fun o => ((below_of_alloc (X := w1) o).cell (World.block_lt_of_cell? w1 _ c0)).trans c0; clear c0 hS1) | ((with_reducible refine (HC.out _ _ (HS1.out.below (below_of_alloc _))).mono ?_); rintro e w2 ⟨b2, rfl, hS2⟩; have HS2 := Lib.hid hS2; clear hS2))
      go_ret
      exact HS2.out.done
    · go_enter Tryz.func133, Tryz.ntmps133
      go_wp2_with (first | (go_at_call 79; (with_reducible refine (HSY.out _ _ HS.out).mono ?_); rintro e w1 ⟨rfl, hS1⟩; have HS1 := Lib.hid hS1; have c0 := HSC.out _ hS1.rd.env; have c1 := fun o => ((below_of_alloc (X := w1) o).cell (World.block_lt_of_cell? w1 _ c0)).trans c0; clear c0 hS1) | ((with_reducible refine (HC.out _ _ (HS1.out.below (below_of_alloc _))).mono ?_); rintro e w2 ⟨b2, rfl, hS2⟩; have HS2 := Lib.hid hS2; clear hS2))
      go_ret
      exact HS2.out.done
end Go.Proofs.YtckfcpiedainfaaGreatDoor

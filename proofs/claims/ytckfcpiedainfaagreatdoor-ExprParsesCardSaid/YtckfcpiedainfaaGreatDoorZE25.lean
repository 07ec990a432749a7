/-
  WALKS over package expr's reader: until, word, call, choice, loop.
-/
import Derived.Test.YtckfcpiedainfaaGreatDoorZE24
namespace Go.Proofs.YtckfcpiedainfaaGreatDoor
open Go Go.RowKit Go.Sort
set_option linter.unusedVariables false
/-- a call that reads: it ends at a fault, or with a tree -/
def Reads (w : World) (g : Nat) (A : Option Addr) (c : Nat) (all : List Tok) (fin : Int) (sl : Nat) (F : FuncId) (args : Array Value) (p : Nat) (V : Rd) : Prop :=
  (∃ l', V = .error l' ∧ Hid (∀ ts X, St w g A c all fin ts p X → Calls Tryz.prog F args X (ThrewR w g (placeV l' fin)))) ∨
  (∃ t p1, V = .ok (t, all.drop p1) ∧ p ≤ p1 ∧ p1 ≤ all.length ∧ t.size + (all.length - p1) ≤ sl + (all.length - p) ∧ Hid (∀ ts X, St w g A c all fin ts p X → Calls Tryz.prog F args X (GotT w g A c all fin ts t p1)))
theorem must_read (w : World) (g c p : Nat) (A : Option Addr) (all : List Tok) (fin : Int) (s : ByteArray) :
    (∃ l', mustV (all.drop p) s.data.toList = .error l' ∧ Hid (∀ ts X, St w g A c all fin ts p X → Calls Tryz.prog 143 #[.pointer (some ⟨g, 0, none⟩), .string s] X (ThrewR w g (placeV l' fin)))) ∨
    (mustV (all.drop p) s.data.toList = .ok (all.drop (p + 1)) ∧ p < all.length ∧ Hid (∀ ts X, St w g A c all fin ts p X → Calls Tryz.prog 143 #[.pointer (some ⟨g, 0, none⟩), .string s] X (fun e X' => e = .returned (.tuple #[]) ∧ St w g A c all fin ts (p + 1) X'))) := by
  cases hr : mustV (all.drop p) s.data.toList with
  | error l' => exact .inl ⟨l', rfl, Lib.hid fun ts X hS => (must_any X g c p A all fin hS.rd.rd s).mono fun e X' hh => hS.threw (by rw [hr] at hh; exact hh)⟩
  | ok l1 =>
    obtain ⟨hm, rfl⟩ := mustV_ok hr
    have hl : p < all.length := by
      rcases Nat.lt_or_ge p all.length with hp | hp
      · exact hp
      · rw [List.drop_eq_nil_of_le hp] at hm; cases hm
    refine .inr ⟨by rw [drop_one], hl, Lib.hid fun ts X hS => (must_any X g c p A all fin hS.rd.rd s).mono fun e X' hh => ?_⟩
    rw [hr] at hh
    obtain ⟨e1, hw⟩ := hh
    obtain ⟨p2, e2, h5, h6⟩ := hS.rd.went hw
    rw [drop_one] at e2
    obtain rfl := drop_inj hl h5.rd.le e2
    exact ⟨e1, hS.step h5 h6⟩
theorem St.new0 {w X : World} {g c p : Nat} {A : Option Addr} {all : List Tok} {fin : Int} {ts : List (Nat × Tr)} (h : St w g A c all fin ts p X) (k : Int) (s : ByteArray) :
    Calls Tryz.prog 80 #[.int .i64 k, .string s, .slice none 0 0] X (GotT w g A c all fin ts ⟨k, s, 0, .nil⟩ p) := by
  refine (newTree_any _ (g + 1) k s _ .nil [] (.inl ⟨rfl, rfl⟩) (ts_nil _ _) h.lt (Nat.succ_pos _) (Nat.zero_le _)).mono ?_
  rintro e w' ⟨b, e1, _, h2, h3⟩
  exact ⟨b, e1, (h.below h3).add h2⟩
theorem St.newI {w X : World} {g c p : Nat} {A : Option Addr} {all : List Tok} {fin : Int} {ts : List (Nat × Tr)} (h : St w g A c all fin ts p X) (i : Int) :
    Calls Tryz.prog 141 #[.int .i64 i] X (GotT w g A c all fin ts (.leaf 1 ByteArray.empty i) p) := by
  refine (newInt_any _ (g + 1) i h.lt (Nat.succ_pos _)).mono ?_
  rintro e w' ⟨b, e1, _, h2, h3⟩
  exact ⟨b, e1, (h.below h3).add h2⟩
set_option maxHeartbeats 1600000 in
set_option maxRecDepth 20000 in
theorem until_read (w : World) (g c p : Nat) (A : Option Addr) (all : List Tok) (fin : Int) (hroom : all.length ≤ 1000000) (hle : p ≤ all.length) (HO : LvF g A c all fin 32 1 p) (s : ByteArray) : Reads w g A c all fin 0 140 #[.pointer (some ⟨g, 0, none⟩), .string s] p (untilV rdX (all.drop p) s.data.toList) := by
  unfold untilV
  rcases HO.read w (Nat.le_refl p) hle with ⟨l', hr, HE⟩ | ⟨t0, p0, hr, hp0, hl0, hz0, HC0⟩
  · rw [hr, bind_err]
    refine .inl ⟨l', rfl, Lib.hid fun ts X hS => ?_⟩
    have HS0 := Lib.hid hS
    clear hr hS HO
    go_enter Tryz.func140, Tryz.ntmps140
    go_wp2_with (first | (go_at_call 32; (with_reducible refine (HE.out _ _ HS0.out).mono ?_); rintro e w1 ⟨rfl, hgE⟩))
    exact ⟨rfl, rfl, hgE⟩
  rw [hr, bind_ok]
  (try dsimp only)
  clear hr
  rcases must_read w g c p0 A all fin s with ⟨l', hr, HE⟩ | ⟨hr, hl1, HC1⟩
  · rw [hr, bind_err]
    refine .inl ⟨l', rfl, Lib.hid fun ts X hS => ?_⟩
    have HS0 := Lib.hid hS
    clear hr hS HO
    go_enter Tryz.func140, Tryz.ntmps140
    go_wp2_with (first | (go_at_call 143; (with_reducible refine (HE.out _ _ HS1.out).mono ?_); rintro e w2 ⟨rfl, hgE⟩) | (go_at_call 32; (with_reducible refine (HC0.out _ _ HS0.out).mono ?_); rintro e w1 ⟨b1, rfl, hS1⟩; have HS1 := Lib.hid hS1; clear hS1))
    exact ⟨rfl, rfl, hgE⟩
  rw [hr, bind_ok]
  (try dsimp only)
  clear hr
  refine .inr ⟨_, _, rfl, by omega, by omega, by omega, Lib.hid fun ts X hS => ?_⟩
  have HS0 := Lib.hid hS
  clear hS HO
  go_enter Tryz.func140, Tryz.ntmps140
  go_wp2_with (first | (go_at_call 143; (with_reducible refine (HC1.out _ _ HS1.out).mono ?_); rintro e w2 ⟨rfl, hS2⟩; have HS2 := Lib.hid hS2; clear hS2) | (go_at_call 32; (with_reducible refine (HC0.out _ _ HS0.out).mono ?_); rintro e w1 ⟨b1, rfl, hS1⟩; have HS1 := Lib.hid hS1; clear hS1))
  go_ret
  exact ⟨_, rfl, HS2.out⟩
set_option maxHeartbeats 1600000 in
set_option maxRecDepth 20000 in
theorem word_read (w : World) (g c p : Nat) (A : Option Addr) (all : List Tok) (fin : Int) (hle : p ≤ all.length) (k : Int) : Reads w g A c all fin 1 135 #[.pointer (some ⟨g, 0, none⟩), .int .i64 k] p (.ok (.leaf k ByteArray.empty 0, all.drop p)) := by
  have HO := 0
  refine .inr ⟨_, _, rfl, by omega, by omega, by rw [leaf_size]; omega, Lib.hid fun ts X hS => ?_⟩
  have HS0 := Lib.hid hS
  clear hS HO
  go_enter Tryz.func135, Tryz.ntmps135
  go_wp2_with (first | (go_at_call 80; (with_reducible refine (HS0.out.new0 _ _).mono ?_); rintro e w1 ⟨b1, rfl, hS1⟩; have HS1 := Lib.hid hS1; clear hS1))
  go_ret
  exact ⟨_, rfl, HS1.out⟩
set_option maxHeartbeats 1600000 in
set_option maxRecDepth 20000 in
theorem call_read (w : World) (g c p : Nat) (A : Option Addr) (all : List Tok) (fin : Int) (hroom : all.length ≤ 1000000) (hle : p ≤ all.length) (HO : LvF g A c all fin 32 1 p) (k : Int) : Reads w g A c all fin 1 136 #[.pointer (some ⟨g, 0, none⟩), .int .i64 k] p (bindR (mustV (all.drop p) [40]) fun r2 => bindR (untilV rdX r2 [41]) fun a => .ok (⟨k, ByteArray.empty, 0, row1 a.1⟩, a.2)) := by
  show Reads _ _ _ _ _ _ _ _ _ _ (bindR (mustV (all.drop p) (⟨#[40]⟩ : ByteArray).data.toList) fun r2 => bindR (untilV rdX r2 (⟨#[41]⟩ : ByteArray).data.toList) fun a => .ok (⟨k, ByteArray.empty, 0, row1 a.1⟩, a.2))
  rcases must_read w g c p A all fin ⟨#[40]⟩ with ⟨l', hr, HE⟩ | ⟨hr, hl0, HC0⟩
  · rw [hr, bind_err]
    refine .inl ⟨l', rfl, Lib.hid fun ts X hS => ?_⟩
    have HS0 := Lib.hid hS
    clear hr hS HO
    go_enter Tryz.func136, Tryz.ntmps136
    go_wp2_with (first | (go_at_call 143; (with_reducible refine (HE.out _ _ HS0.out).mono ?_); rintro e w1 ⟨rfl, hgE⟩))
    exact ⟨rfl, rfl, hgE⟩
  rw [hr, bind_ok]
  (try dsimp only)
  clear hr
  rcases until_read w g c (p + 1) A all fin hroom (by omega) (HO.later (by omega)) ⟨#[41]⟩ with ⟨l', hr, HE⟩ | ⟨t1, p1, hr, hp1, hl1, hz1, HC1⟩
  · rw [hr, bind_err]
    refine .inl ⟨l', rfl, Lib.hid fun ts X hS => ?_⟩
    have HS0 := Lib.hid hS
    clear hr hS HO
    go_enter Tryz.func136, Tryz.ntmps136
    go_wp2_with (first | (go_at_call 140; (with_reducible refine (HE.out _ _ HS1.out).mono ?_); rintro e w2 ⟨rfl, hgE⟩) | (go_at_call 143; (with_reducible refine (HC0.out _ _ HS0.out).mono ?_); rintro e w1 ⟨rfl, hS1⟩; have HS1 := Lib.hid hS1; clear hS1))
    exact ⟨rfl, rfl, hgE⟩
  rw [hr, bind_ok]
  (try dsimp only)
  clear hr
  refine .inr ⟨_, _, rfl, by omega, by omega, by rw [mk1_size]; omega, Lib.hid fun ts X hS => ?_⟩
  have HS0 := Lib.hid hS
  clear hS HO
  go_enter Tryz.func136, Tryz.ntmps136
  go_wp2_with (first | (go_at_call 80; (with_reducible refine (HS2.out.new1 (by omega) _ _).mono ?_); rintro e w3 ⟨b3, rfl, hS3⟩; have HS3 := Lib.hid hS3; clear hS3) | (go_at_call 140; (with_reducible refine (HC1.out _ _ HS1.out).mono ?_); rintro e w2 ⟨b2, rfl, hS2⟩; have HS2 := Lib.hid hS2; clear hS2) | (go_at_call 143; (with_reducible refine (HC0.out _ _ HS0.out).mono ?_); rintro e w1 ⟨rfl, hS1⟩; have HS1 := Lib.hid hS1; clear hS1))
  go_ret
  exact ⟨_, rfl, HS3.out⟩
set_option maxHeartbeats 1600000 in
set_option maxRecDepth 20000 in
theorem choice_read (w : World) (g c p : Nat) (A : Option Addr) (all : List Tok) (fin : Int) (hroom : all.length ≤ 1000000) (hle : p ≤ all.length) (HO : LvF g A c all fin 32 1 p) (k : Int) : Reads w g A c all fin 1 137 #[.pointer (some ⟨g, 0, none⟩), .int .i64 k] p (bindR (untilV rdX (all.drop p) [116, 104, 101, 110]) fun a => bindR (untilV rdX a.2 [101, 108, 115, 101]) fun b => bindR (untilV rdX b.2 [101, 110, 100]) fun c => .ok (⟨k, ByteArray.empty, 0, row3 a.1 b.1 c.1⟩, c.2)) := by
  show Reads _ _ _ _ _ _ _ _ _ _ (bindR (untilV rdX (all.drop p) (⟨#[116, 104, 101, 110]⟩ : ByteArray).data.toList) fun a => bindR (untilV rdX a.2 (⟨#[101, 108, 115, 101]⟩ : ByteArray).data.toList) fun b => bindR (untilV rdX b.2 (⟨#[101, 110, 100]⟩ : ByteArray).data.toList) fun c => .ok (⟨k, ByteArray.empty, 0, row3 a.1 b.1 c.1⟩, c.2))
  rcases until_read w g c p A all fin hroom (by omega) (HO.later (by omega)) ⟨#[116, 104, 101, 110]⟩ with ⟨l', hr, HE⟩ | ⟨t0, p0, hr, hp0, hl0, hz0, HC0⟩
  · rw [hr, bind_err]
    refine .inl ⟨l', rfl, Lib.hid fun ts X hS => ?_⟩
    have HS0 := Lib.hid hS
    clear hr hS HO
    go_enter Tryz.func137, Tryz.ntmps137
    go_wp2_with (first | (go_at_call 140; (with_reducible refine (HE.out _ _ HS0.out).mono ?_); rintro e w1 ⟨rfl, hgE⟩))
    exact ⟨rfl, rfl, hgE⟩
  rw [hr, bind_ok]
  (try dsimp only)
  clear hr
  rcases until_read w g c p0 A all fin hroom (by omega) (HO.later (by omega)) ⟨#[101, 108, 115, 101]⟩ with ⟨l', hr, HE⟩ | ⟨t1, p1, hr, hp1, hl1, hz1, HC1⟩
  · rw [hr, bind_err]
    refine .inl ⟨l', rfl, Lib.hid fun ts X hS => ?_⟩
    have HS0 := Lib.hid hS
    clear hr hS HO
    go_enter Tryz.func137, Tryz.ntmps137
    go_wp2_with (first | (go_at_call 140; (with_reducible refine (HE.out _ _ HS1.out).mono ?_); rintro e w2 ⟨rfl, hgE⟩) | (go_at_call 140; (with_reducible refine (HC0.out _ _ HS0.out).mono ?_); rintro e w1 ⟨b1, rfl, hS1⟩; have HS1 := Lib.hid hS1; clear hS1))
    exact ⟨rfl, rfl, hgE⟩
  rw [hr, bind_ok]
  (try dsimp only)
  clear hr
  rcases until_read w g c p1 A all fin hroom (by omega) (HO.later (by omega)) ⟨#[101, 110, 100]⟩ with ⟨l', hr, HE⟩ | ⟨t2, p2, hr, hp2, hl2, hz2, HC2⟩
  · rw [hr, bind_err]
    refine .inl ⟨l', rfl, Lib.hid fun ts X hS => ?_⟩
    have HS0 := Lib.hid hS
    clear hr hS HO
    go_enter Tryz.func137, Tryz.ntmps137
    go_wp2_with (first | (go_at_call 140; (with_reducible refine (HE.out _ _ HS2.out).mono ?_); rintro e w3 ⟨rfl, hgE⟩) | (go_at_call 140; (with_reducible refine (HC1.out _ _ HS1.out).mono ?_); rintro e w2 ⟨b2, rfl, hS2⟩; have HS2 := Lib.hid hS2; clear hS2) | (go_at_call 140; (with_reducible refine (HC0.out _ _ HS0.out).mono ?_); rintro e w1 ⟨b1, rfl, hS1⟩; have HS1 := Lib.hid hS1; clear hS1))
    exact ⟨rfl, rfl, hgE⟩
  rw [hr, bind_ok]
  (try dsimp only)
  clear hr
  refine .inr ⟨_, _, rfl, by omega, by omega, by rw [mk3_size]; omega, Lib.hid fun ts X hS => ?_⟩
  have HS0 := Lib.hid hS
  clear hS HO
  go_enter Tryz.func137, Tryz.ntmps137
  go_wp2_with (first | (go_at_call 80; (with_reducible refine (HS3.out.new3 (by omega) _ _).mono ?_); rintro e w4 ⟨b4, rfl, hS4⟩; have HS4 := Lib.hid hS4; clear hS4) | (go_at_call 140; (with_reducible refine (HC2.out _ _ HS2.out).mono ?_); rintro e w3 ⟨b3, rfl, hS3⟩; have HS3 := Lib.hid hS3; clear hS3) | (go_at_call 140; (with_reducible refine (HC1.out _ _ HS1.out).mono ?_); rintro e w2 ⟨b2, rfl, hS2⟩; have HS2 := Lib.hid hS2; clear hS2) | (go_at_call 140; (with_reducible refine (HC0.out _ _ HS0.out).mono ?_); rintro e w1 ⟨b1, rfl, hS1⟩; have HS1 := Lib.hid hS1; clear hS1))
  go_ret
  exact ⟨_, rfl, HS4.out⟩
set_option maxHeartbeats 1600000 in
set_option maxRecDepth 20000 in
theorem loop_read (w : World) (g c p : Nat) (A : Option Addr) (all : List Tok) (fin : Int) (hroom : all.length ≤ 1000000) (hle : p ≤ all.length) (HO : LvF g A c all fin 32 1 p) (k : Int) (hk1 : 1 ≤ k) (hk2 : k ≤ 34) : Reads w g A c all fin 1 138 #[.pointer (some ⟨g, 0, none⟩), .int .i64 k] p (bindR (nameOfV k (all.drop p)) fun x => bindR (mustV x.2 [105, 110]) fun r2 => bindR (untilV rdX r2 [58]) fun a => bindR (untilV rdX a.2 [101, 110, 100]) fun b => .ok (⟨k, x.1, 0, row2 a.1 b.1⟩, b.2)) := by
  show Reads _ _ _ _ _ _ _ _ _ _ (bindR (nameOfV k (all.drop p)) fun x => bindR (mustV x.2 (⟨#[105, 110]⟩ : ByteArray).data.toList) fun r2 => bindR (untilV rdX r2 (⟨#[58]⟩ : ByteArray).data.toList) fun a => bindR (untilV rdX a.2 (⟨#[101, 110, 100]⟩ : ByteArray).data.toList) fun b => .ok (⟨k, x.1, 0, row2 a.1 b.1⟩, b.2))
  rcases name_read w g c p A all fin k hk1 hk2 hle with ⟨l', hr, HE⟩ | ⟨s0, p0, hr, hp0, hl0, HC0⟩
  · rw [hr, bind_err]
    refine .inl ⟨l', rfl, Lib.hid fun ts X hS => ?_⟩
    have HS0 := Lib.hid hS
    clear hr hS HO
    go_enter Tryz.func138, Tryz.ntmps138
    go_wp2_with (first | (go_at_call 134; (with_reducible refine (HE.out _ _ HS0.out).mono ?_); rintro e w1 ⟨rfl, hgE⟩))
    exact ⟨rfl, rfl, hgE⟩
  rw [hr, bind_ok]
  (try dsimp only)
  clear hr
  rcases must_read w g c p0 A all fin ⟨#[105, 110]⟩ with ⟨l', hr, HE⟩ | ⟨hr, hl1, HC1⟩
  · rw [hr, bind_err]
    refine .inl ⟨l', rfl, Lib.hid fun ts X hS => ?_⟩
    have HS0 := Lib.hid hS
    clear hr hS HO
    go_enter Tryz.func138, Tryz.ntmps138
    go_wp2_with (first | (go_at_call 143; (with_reducible refine (HE.out _ _ HS1.out).mono ?_); rintro e w2 ⟨rfl, hgE⟩) | (go_at_call 134; (with_reducible refine (HC0.out _ _ HS0.out).mono ?_); rintro e w1 ⟨rfl, hS1, -⟩; have HS1 := Lib.hid hS1; clear hS1))
    exact ⟨rfl, rfl, hgE⟩
  rw [hr, bind_ok]
  (try dsimp only)
  clear hr
  rcases until_read w g c (p0 + 1) A all fin hroom (by omega) (HO.later (by omega)) ⟨#[58]⟩ with ⟨l', hr, HE⟩ | ⟨t2, p2, hr, hp2, hl2, hz2, HC2⟩
  · rw [hr, bind_err]
    refine .inl ⟨l', rfl, Lib.hid fun ts X hS => ?_⟩
    have HS0 := Lib.hid hS
    clear hr hS HO
    go_enter Tryz.func138, Tryz.ntmps138
    go_wp2_with (first | (go_at_call 140; (with_reducible refine (HE.out _ _ HS2.out).mono ?_); rintro e w3 ⟨rfl, hgE⟩) | (go_at_call 143; (with_reducible refine (HC1.out _ _ HS1.out).mono ?_); rintro e w2 ⟨rfl, hS2⟩; have HS2 := Lib.hid hS2; clear hS2) | (go_at_call 134; (with_reducible refine (HC0.out _ _ HS0.out).mono ?_); rintro e w1 ⟨rfl, hS1, -⟩; have HS1 := Lib.hid hS1; clear hS1))
    exact ⟨rfl, rfl, hgE⟩
  rw [hr, bind_ok]
  (try dsimp only)
  clear hr
  rcases until_read w g c p2 A all fin hroom (by omega) (HO.later (by omega)) ⟨#[101, 110, 100]⟩ with ⟨l', hr, HE⟩ | ⟨t3, p3, hr, hp3, hl3, hz3, HC3⟩
  · rw [hr, bind_err]
    refine .inl ⟨l', rfl, Lib.hid fun ts X hS => ?_⟩
    have HS0 := Lib.hid hS
    clear hr hS HO
    go_enter Tryz.func138, Tryz.ntmps138
    go_wp2_with (first | (go_at_call 140; (with_reducible refine (HE.out _ _ HS3.out).mono ?_); rintro e w4 ⟨rfl, hgE⟩) | (go_at_call 140; (with_reducible refine (HC2.out _ _ HS2.out).mono ?_); rintro e w3 ⟨b3, rfl, hS3⟩; have HS3 := Lib.hid hS3; clear hS3) | (go_at_call 143; (with_reducible refine (HC1.out _ _ HS1.out).mono ?_); rintro e w2 ⟨rfl, hS2⟩; have HS2 := Lib.hid hS2; clear hS2) | (go_at_call 134; (with_reducible refine (HC0.out _ _ HS0.out).mono ?_); rintro e w1 ⟨rfl, hS1, -⟩; have HS1 := Lib.hid hS1; clear hS1))
    exact ⟨rfl, rfl, hgE⟩
  rw [hr, bind_ok]
  (try dsimp only)
  clear hr
  refine .inr ⟨_, _, rfl, by omega, by omega, by rw [mk2_size]; omega, Lib.hid fun ts X hS => ?_⟩
  have HS0 := Lib.hid hS
  clear hS HO
  go_enter Tryz.func138, Tryz.ntmps138
  go_wp2_with (first | (go_at_call 80; (with_reducible refine (HS4.out.new2 (by omega) _ _).mono ?_); rintro e w5 ⟨b5, rfl, hS5⟩; have HS5 := Lib.hid hS5; clear hS5) | (go_at_call 140; (with_reducible refine (HC3.out _ _ HS3.out).mono ?_); rintro e w4 ⟨b4, rfl, hS4⟩; have HS4 := Lib.hid hS4; clear hS4) | (go_at_call 140; (with_reducible refine (HC2.out _ _ HS2.out).mono ?_); rintro e w3 ⟨b3, rfl, hS3⟩; have HS3 := Lib.hid hS3; clear hS3) | (go_at_call 143; (with_reducible refine (HC1.out _ _ HS1.out).mono ?_); rintro e w2 ⟨rfl, hS2⟩; have HS2 := Lib.hid hS2; clear hS2) | (go_at_call 134; (with_reducible refine (HC0.out _ _ HS0.out).mono ?_); rintro e w1 ⟨rfl, hS1, -⟩; have HS1 := Lib.hid hS1; clear hS1))
  go_ret
  exact ⟨_, rfl, HS5.out⟩
end Go.Proofs.YtckfcpiedainfaaGreatDoor

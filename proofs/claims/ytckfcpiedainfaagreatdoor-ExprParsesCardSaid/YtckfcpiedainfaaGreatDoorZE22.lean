/-
  WALKS over package expr's reader: what a level answers (RPost), a level as a function value (LvF); pair, row.
-/
import Derived.Test.YtckfcpiedainfaaGreatDoorZE21
namespace Go.Proofs.YtckfcpiedainfaaGreatDoor
open Go Go.RowKit Go.Sort
set_option linter.unusedVariables false
/-- behind the variables that are read -/
def gTop : Nat := max (max 0 2) (max 1 5) + 1
theorem ExprEnv.top {w : World} (h : ExprEnv w) : gTop ≤ w.heap.size := by
  obtain ⟨⟨h3, ⟨t1, f1, h1⟩, ⟨t2, f2, h2⟩⟩, ⟨t, fr, h4⟩⟩ := h
  have a1 := heap_lt h1
  have a2 := heap_lt h2
  have a3 := var_lt gTab h3
  have a4 := heap_lt h4
  unfold gTop
  omega
theorem ExprEnv.kept {w w' : World} {g : Nat} (h : ExprEnv w) (hg : w.grownBy w' (some g)) (h64 : gTop ≤ g) (hgl : g < w.heap.size) : ExprEnv w' := by
  have hb : Below gTop w w' := ⟨hg.os, hg.tape, hg.output, hg.size, fun k hk => hg.block k (by omega) (by simp; omega)⟩
  obtain ⟨⟨h3, ⟨t1, f1, h1⟩, ⟨t2, f2, h2⟩⟩, ⟨t, fr, h4⟩⟩ := h
  exact ⟨⟨var?_below hb gTab (by decide) h3, ⟨t1, f1, (hb.block _ (by decide)).trans h1⟩, ⟨t2, f2, (hb.block _ (by decide)).trans h2⟩⟩, t, fr, (hb.block _ (by decide)).trans h4⟩
/-- the reader and the tables -/
structure RdC (X : World) (g : Nat) (A : Option Addr) (c : Nat) (all : List Tok) (fin : Int) (p : Nat) : Prop where
  rd : RdIn X g A c all fin p
  env : ExprEnv X
  g64 : gTop ≤ g
section
variable {w w' X : World} {g c p : Nat} {A : Option Addr} {all l' : List Tok} {fin : Int}
theorem RdC.after (h : RdC w g A c all fin p) (hb : Below w.heap.size w w') : RdC w' g A c all fin p := ⟨h.rd.after hb, h.env.below hb, h.g64⟩
theorem RdC.went (h : RdC w g A c all fin p) (hw : Went w g A c all fin l' w') : ∃ p', l' = all.drop p' ∧ RdC w' g A c all fin p' ∧ w.grownBy w' (some g) := by
  obtain ⟨p', e, h1, h2⟩ := hw
  exact ⟨p', e, ⟨h1, h.env.kept h2 h.g64 h.rd.blk.lt, h.g64⟩, h2⟩
theorem ThrewR.from {w1 : World} {q : Int} {e : Ending} (h : ThrewR w1 g q e w') (hg : w.grownBy w1 (some g)) : ThrewR w g q e w' := ⟨h.1, hg.trans h.2⟩
end
/-- what a level answers -/
def RPost (w : World) (g : Nat) (A : Option Addr) (c : Nat) (all : List Tok) (fin : Int) (r : Rd) (e : Ending) (w' : World) : Prop := match r with
  | .ok q => ∃ b, e = .returned (.pointer (some ⟨b, 0, none⟩)) ∧ TIn w' (g + 1) b q.1 ∧ ∃ p', q.2 = all.drop p' ∧ RdC w' g A c all fin p' ∧ w.grownBy w' (some g)
  | .error l' => ThrewR w g (placeV l' fin) e w'
theorem RPost.from {w w1 w' : World} {g c : Nat} {A : Option Addr} {all : List Tok} {fin : Int} {r : Rd} {e : Ending} (h : RPost w1 g A c all fin r e w') (hg : w.grownBy w1 (some g)) : RPost w g A c all fin r e w' := by
  cases r with
  | ok q => obtain ⟨b, e1, h1, p', h2, h3, h4⟩ := h; exact ⟨b, e1, h1, p', h2, h3, hg.trans h4⟩
  | error l => exact ThrewR.from h hg
/-- a level as a function value: what it does wherever the reader stands from p0 on -/
structure LvF (g : Nat) (A : Option Addr) (c : Nat) (all : List Tok) (fin : Int) (F : FuncId) (n p0 : Nat) : Prop where
  enters : ∀ args X, Sem.run Tryz.prog (callFunc F args) X = .ok (.enter F args) X
  call : ∀ X p, p0 ≤ p → RdC X g A c all fin p → Calls Tryz.prog F #[.pointer (some ⟨g, 0, none⟩)] X (RPost X g A c all fin (rdX (.lv n) (all.drop p)))
theorem LvF.later {g c n p0 p1 : Nat} {A : Option Addr} {all : List Tok} {fin : Int} {F : FuncId} (h : LvF g A c all fin F n p0) (hp : p0 ≤ p1) : LvF g A c all fin F n p1 := ⟨h.enters, fun X p hp' hR => h.call X p (Nat.le_trans hp hp') hR⟩
/-- how far the reader is, and the trees that it holds (by their blocks): since w -/
structure St (w : World) (g : Nat) (A : Option Addr) (c : Nat) (all : List Tok) (fin : Int) (ts : List (Nat × Tr)) (p : Nat) (X : World) : Prop where
  rd : RdC X g A c all fin p
  gr : w.grownBy X (some g)
  ts : ∀ q ∈ ts, TIn X (g + 1) q.1 q.2
theorem drop_inj {l : List Tok} {i j : Nat} (hi : i ≤ l.length) (hj : j ≤ l.length) (h : l.drop i = l.drop j) : i = j := by
  have := congrArg List.length h
  rw [List.length_drop, List.length_drop] at this
  omega
theorem txt_drop {l : List Tok} (h : TxtOk l) (p : Nat) : TxtOk (l.drop p) := fun t ht => h t (List.mem_of_mem_drop ht)
section
variable {w X X' : World} {g c p p' n p0 : Nat} {A : Option Addr} {all : List Tok} {fin : Int} {ts : List (Nat × Tr)} {F : FuncId}
theorem St.start (h : RdC w g A c all fin p) : St w g A c all fin [] p w := ⟨h, ⟨rfl, rfl, rfl, Nat.le_refl _, fun _ _ _ => rfl⟩, by simp⟩
theorem St.step (h : St w g A c all fin ts p X) (hR : RdC X' g A c all fin p') (hg : X.grownBy X' (some g)) : St w g A c all fin ts p' X' := ⟨hR, h.gr.trans hg, fun q hq => (h.ts q hq).kept hg (Nat.lt_succ_self _)⟩
theorem St.below (h : St w g A c all fin ts p X) (hb : Below X.heap.size X X') : St w g A c all fin ts p X' := h.step (h.rd.after hb) (grown_below hb _)
theorem St.add {b : Nat} {t : Tr} (h : St w g A c all fin ts p X) (ht : TIn X (g + 1) b t) : St w g A c all fin ((b, t) :: ts) p X := ⟨h.rd, h.gr, fun q hq => by
  rcases List.mem_cons.1 hq with rfl | hq
  · exact ht
  · exact h.ts q hq⟩
theorem St.tail {q : Nat × Tr} (h : St w g A c all fin (q :: ts) p X) : St w g A c all fin ts p X := ⟨h.rd, h.gr, fun q hq => h.ts q (List.mem_cons_of_mem _ hq)⟩
theorem St.head {b : Nat} {t : Tr} (h : St w g A c all fin ((b, t) :: ts) p X) : TIn X (g + 1) b t := h.ts (b, t) List.mem_cons_self
theorem St.le (h : St w g A c all fin ts p X) : p ≤ all.length := h.rd.rd.le
theorem St.lt (h : St w g A c all fin ts p X) : g + 1 ≤ X.heap.size := h.rd.rd.blk.lt
theorem St.done {b : Nat} {t : Tr} (h : St w g A c all fin ((b, t) :: ts) p X) : RPost w g A c all fin (.ok (t, all.drop p)) (.returned (.pointer (some ⟨b, 0, none⟩))) X := ⟨b, rfl, h.head, p, rfl, h.rd, h.gr⟩
theorem St.threw {q : Int} {e : Ending} (h : St w g A c all fin ts p X) (ht : ThrewR X g q e X') : ThrewR w g q e X' := ht.from h.gr
/-- a tree that comes -/
def GotT (w : World) (g : Nat) (A : Option Addr) (c : Nat) (all : List Tok) (fin : Int) (ts : List (Nat × Tr)) (t : Tr) (p : Nat) (e : Ending) (X' : World) : Prop := ∃ b, e = .returned (.pointer (some ⟨b, 0, none⟩)) ∧ St w g A c all fin ((b, t) :: ts) p X'
theorem St.got {t : Tr} {e : Ending} (h : St w g A c all fin ts p X) (hp : p' ≤ all.length) (hr : RPost X g A c all fin (.ok (t, all.drop p')) e X') : GotT w g A c all fin ts t p' e X' := by
  obtain ⟨b, e1, h1, p2, h2, h3, h4⟩ := hr
  obtain rfl := drop_inj hp h3.rd.le h2
  exact ⟨b, e1, (h.step h3 h4).add h1⟩
/-- a level is read: it ends at a fault, or with a tree -/
theorem LvF.read (w : World) (HF : LvF g A c all fin F n p0) (hp : p0 ≤ p) (hpl : p ≤ all.length) :
    (∃ l', rdX (.lv n) (all.drop p) = .error l' ∧ Hid (∀ ts X, St w g A c all fin ts p X → Calls Tryz.prog F #[.pointer (some ⟨g, 0, none⟩)] X (ThrewR w g (placeV l' fin)))) ∨
    (∃ t p1, rdX (.lv n) (all.drop p) = .ok (t, all.drop p1) ∧ p < p1 ∧ p1 ≤ all.length ∧ t.size + (all.length - p1) ≤ all.length - p ∧ Hid (∀ ts X, St w g A c all fin ts p X → Calls Tryz.prog F #[.pointer (some ⟨g, 0, none⟩)] X (GotT w g A c all fin ts t p1))) := by
  cases hr : rdX (.lv n) (all.drop p) with
  | error l' => exact .inl ⟨l', rfl, Lib.hid fun ts X hS => (HF.call X p hp hS.rd).mono fun e X' h => hS.threw (by rw [hr] at h; exact h)⟩
  | ok q =>
    obtain ⟨t, l1⟩ := q
    obtain ⟨p1, e1, h1, h2⟩ := rdX_place hr hpl
    have e1' : l1 = all.drop p1 := e1
    subst e1'
    have hz := rdX_size hr
    rw [List.length_drop, List.length_drop] at hz
    exact .inr ⟨t, p1, rfl, h1, h2, hz, Lib.hid fun ts X hS => (HF.call X p hp hS.rd).mono fun e X' h => hS.got h2 (by rw [hr] at h; exact h)⟩
/-- no sign of that level comes -/
theorem St.signNo (w : World) (fin : Int) (A : Option Addr) (c g : Nat) {m : Int} (hk : signK m (all.drop p) = none) : Hid (∀ ts X, St w g A c all fin ts p X → Calls Tryz.prog 79 #[.pointer (some ⟨g, 0, none⟩), .int .i64 m] X (fun e X' => e = .returned (.tuple #[.int .i64 0, .bool false]) ∧ St w g A c all fin ts p X')) :=
  Lib.hid fun ts X hS => (sign_any X g c p A all fin hS.rd.rd hS.rd.env m).mono fun e X' hh => by
    rw [hk] at hh
    obtain ⟨h1, h2⟩ := hh
    obtain ⟨p2, e2, h3, h4⟩ := hS.rd.went h2
    obtain rfl := drop_inj hS.le h3.rd.le e2
    exact ⟨h1, hS.step h3 h4⟩
/-- it comes -/
theorem St.signYes (w : World) (fin : Int) (A : Option Addr) (c g : Nat) {m : Int} {k : Nat} (hk : signK m (all.drop p) = some k) (hp : p < all.length) : Hid (∀ ts X, St w g A c all fin ts p X → Calls Tryz.prog 79 #[.pointer (some ⟨g, 0, none⟩), .int .i64 m] X (fun e X' => e = .returned (.tuple #[.int .i64 (k : Int), .bool true]) ∧ St w g A c all fin ts (p + 1) X')) :=
  Lib.hid fun ts X hS => (sign_any X g c p A all fin hS.rd.rd hS.rd.env m).mono fun e X' hh => by
    rw [hk] at hh
    obtain ⟨h1, h2⟩ := hh
    obtain ⟨p2, e2, h3, h4⟩ := hS.rd.went h2
    have e3 : all.drop (p + 1) = all.drop p2 := by rw [← e2]; simp [List.drop_drop, Nat.add_comm]
    obtain rfl := drop_inj (by omega) h3.rd.le e3
    exact ⟨h1, hS.step h3 h4⟩
theorem signK_lt {m : Int} {k : Nat} (hk : signK m (all.drop p) = some k) : p < all.length := by
  rcases Nat.lt_or_ge p all.length with hp | hp
  · exact hp
  · rw [List.drop_eq_nil_of_le hp] at hk; cases hk
/-- a node with one kid, two, three -/
theorem St.new1 {b1 : Nat} {t1 : Tr} (h : St w g A c all fin ((b1, t1) :: ts) p X) (hz : t1.size ≤ 1000000) (k : Int) (s : ByteArray) :
    Calls Tryz.prog 80 #[.int .i64 k, .string s, .slice (some ⟨X.heap.size, 0, none⟩) 1 1] (X.alloc (.cells #[.pointer (some ⟨b1, 0, none⟩)] 48)) (GotT w g A c all fin ts ⟨k, s, 0, row1 t1⟩ p) := by
  have ha := below_of_alloc (X := X) (.cells #[.pointer (some ⟨b1, 0, none⟩)] 48)
  have hB := h.lt
  refine (newTree_any _ (g + 1) k s _ (row1 t1) [.pointer (some ⟨b1, 0, none⟩)] (.inr ⟨_, hB, rfl, Blk.new _ _ _⟩) (ts_cons (h.head.after ha (Nat.succ_pos _)) (ts_nil _ _)) (by simp; omega) (Nat.succ_pos _) (by rw [row1_size]; omega)).mono ?_
  rintro e w' ⟨b, e1, _, h2, h3⟩
  exact ⟨b, e1, (h.tail.below (ha.trans (h3.mono ha.size))).add h2⟩
theorem St.new2 {b1 b2 : Nat} {t1 t2 : Tr} (h : St w g A c all fin ((b2, t2) :: (b1, t1) :: ts) p X) (hz : t1.size + t2.size ≤ 2000000) (k : Int) (s : ByteArray) :
    Calls Tryz.prog 80 #[.int .i64 k, .string s, .slice (some ⟨X.heap.size, 0, none⟩) 2 2] (X.alloc (.cells #[.pointer (some ⟨b1, 0, none⟩), .pointer (some ⟨b2, 0, none⟩)] 48)) (GotT w g A c all fin ts ⟨k, s, 0, row2 t1 t2⟩ p) := by
  have ha := below_of_alloc (X := X) (.cells #[.pointer (some ⟨b1, 0, none⟩), .pointer (some ⟨b2, 0, none⟩)] 48)
  have hB := h.lt
  refine (newTree_any _ (g + 1) k s _ (row2 t1 t2) [.pointer (some ⟨b1, 0, none⟩), .pointer (some ⟨b2, 0, none⟩)] (.inr ⟨_, hB, rfl, Blk.new _ _ _⟩) (ts_cons (h.tail.head.after ha (Nat.succ_pos _)) (ts_cons (h.head.after ha (Nat.succ_pos _)) (ts_nil _ _))) (by simp; omega) (Nat.succ_pos _) (by rw [row2_size]; omega)).mono ?_
  rintro e w' ⟨b, e1, _, h2, h3⟩
  exact ⟨b, e1, (h.tail.tail.below (ha.trans (h3.mono ha.size))).add h2⟩
theorem St.new3 {b1 b2 b3 : Nat} {t1 t2 t3 : Tr} (h : St w g A c all fin ((b3, t3) :: (b2, t2) :: (b1, t1) :: ts) p X) (hz : t1.size + (t2.size + t3.size) ≤ 3000000) (k : Int) (s : ByteArray) :
    Calls Tryz.prog 80 #[.int .i64 k, .string s, .slice (some ⟨X.heap.size, 0, none⟩) 3 3] (X.alloc (.cells #[.pointer (some ⟨b1, 0, none⟩), .pointer (some ⟨b2, 0, none⟩), .pointer (some ⟨b3, 0, none⟩)] 48)) (GotT w g A c all fin ts ⟨k, s, 0, row3 t1 t2 t3⟩ p) := by
  have ha := below_of_alloc (X := X) (.cells #[.pointer (some ⟨b1, 0, none⟩), .pointer (some ⟨b2, 0, none⟩), .pointer (some ⟨b3, 0, none⟩)] 48)
  have hB := h.lt
  refine (newTree_any _ (g + 1) k s _ (row3 t1 t2 t3) [.pointer (some ⟨b1, 0, none⟩), .pointer (some ⟨b2, 0, none⟩), .pointer (some ⟨b3, 0, none⟩)] (.inr ⟨_, hB, rfl, Blk.new _ _ _⟩) (ts_cons (h.tail.tail.head.after ha (Nat.succ_pos _)) (ts_cons (h.tail.head.after ha (Nat.succ_pos _)) (ts_cons (h.head.after ha (Nat.succ_pos _)) (ts_nil _ _)))) (by simp; omega) (Nat.succ_pos _) (by rw [row3_size]; omega)).mono ?_
  rintro e w' ⟨b, e1, _, h2, h3⟩
  exact ⟨b, e1, (h.tail.tail.tail.below (ha.trans (h3.mono ha.size))).add h2⟩
end
/-- a sign of a level that comes, or none -/
theorem sign_cases {n : Nat} (hn : n = 1 ∨ n = 2 ∨ n = 4 ∨ n = 5 ∨ n = 6) {l : List Tok} (ht : TxtOk l) : (signK (n : Int) l = none ∧ signV n l = 0) ∨ ∃ k : Nat, signK (n : Int) l = some k ∧ signV n l = (k : Int) ∧ ¬ signV n l = 0 := by
  have h := sign_row hn ht
  cases hs : signK (n : Int) l with
  | none => rw [hs] at h; exact .inl ⟨rfl, h⟩
  | some k =>
    rw [hs] at h
    have h1 : signV n l = (k : Int) := h.1
    have h2 : k ≠ 0 := h.2
    exact .inr ⟨k, rfl, h1, by rw [h1]; omega⟩
theorem pair_eq (l : List Tok) : rdX (.lv 4) l = bindR (rdX (.lv 5) l) fun a => if signV 4 a.2 = 0 then .ok a else bindR (rdX (.lv 5) (a.2.drop 1)) fun b => .ok (⟨signV 4 a.2, ByteArray.empty, 0, row2 a.1 b.1⟩, b.2) := by
  rw [rdX_lv (n := 4) ⟨by decide, by decide⟩]; rfl
theorem bind_ok {α β : Type} (a : α) (f : α → Except (List Tok) β) : bindR (.ok a) f = f a := rfl
theorem bind_err {α β : Type} (e : List Tok) (f : α → Except (List Tok) β) : bindR (.error e) f = .error e := rfl
set_option maxHeartbeats 1600000 in
set_option maxRecDepth 20000 in
theorem pair_any (w : World) (g c p : Nat) (A : Option Addr) (all : List Tok) (fin : Int) (h : RdC w g A c all fin p) (F : FuncId) (HF : LvF g A c all fin F 5 p) :
    Calls Tryz.prog 109 #[.pointer (some ⟨g, 0, none⟩), .int .i64 4, .func (.func F) #[.pointer (some ⟨g, 0, none⟩)] #[]] w (RPost w g A c all fin (rdX (.lv 4) (all.drop p))) := by
  have hen := HF.enters
  have HS := Lib.hid (St.start h)
  have htx := h.rd.txt
  have hroom := h.rd.room
  have hle := h.rd.le
  clear h
  rw [pair_eq]
  rcases HF.read w (Nat.le_refl p) hle with ⟨l', hr, HC⟩ | ⟨t1, p1, hr, hp1, hpl1, hz1, HC⟩
  · rw [hr, bind_err]
    clear HF hr
    go_enter Tryz.func109, Tryz.ntmps109
    go_wp2_with ((with_reducible refine (HC.out _ _ HS.out).mono ?_); rintro e w1 ⟨rfl, hg1⟩)
    exact ⟨rfl, rfl, hg1⟩
  · rw [hr, bind_ok]
    dsimp only
    clear hr
    rcases sign_cases (n := 4) (by decide) (txt_drop htx p1) with ⟨hk, hv⟩ | ⟨k, hk, hv, hv0⟩
    · rw [if_pos hv]
      rw [show ((4 : Nat) : Int) = 4 from rfl] at hk
      have HSN := St.signNo w fin A c g hk
      clear hv hk HF
      go_enter Tryz.func109, Tryz.ntmps109
      go_wp2_with (first | (go_at_call 79; (with_reducible refine (HSN.out _ _ HS1.out).mono ?_); rintro e w2 ⟨rfl, hS2⟩; have HS2 := Lib.hid hS2; clear hS2) | ((with_reducible refine (HC.out _ _ HS.out).mono ?_); rintro e w1 ⟨b1, rfl, hS1⟩; have HS1 := Lib.hid hS1; clear hS1))
      go_ret
      exact HS2.out.done
    · rw [if_neg hv0, hv]
      rw [show ((4 : Nat) : Int) = 4 from rfl] at hk
      have hpl := signK_lt hk
      have HSY := St.signYes w fin A c g hk hpl
      rw [show (all.drop p1).drop 1 = all.drop (p1 + 1) from by simp [List.drop_drop, Nat.add_comm]]
      rcases HF.read w (show p ≤ p1 + 1 by omega) (by omega) with ⟨l', hr, HC2⟩ | ⟨t2, p2, hr, hp2, hpl2, hz2, HC2⟩
      · rw [hr, bind_err]
        clear HF hr hk hv hv0
        go_enter Tryz.func109, Tryz.ntmps109
        go_wp2_with (first | (go_at_call 79; (with_reducible refine (HSY.out _ _ HS1.out).mono ?_); rintro e w2 ⟨rfl, hS2⟩; have HS2 := Lib.hid hS2; clear hS2) | ((with_reducible refine (HC2.out _ _ HS2.out).mono ?_); rintro e w3 ⟨rfl, hg3⟩) | ((with_reducible refine (HC.out _ _ HS.out).mono ?_); rintro e w1 ⟨b1, rfl, hS1⟩; have HS1 := Lib.hid hS1; clear hS1))
        exact ⟨rfl, rfl, hg3⟩
      · rw [hr, bind_ok]
        clear HF hr hk hv hv0
        go_enter Tryz.func109, Tryz.ntmps109
        go_wp2_with (first | (go_at_call 79; (with_reducible refine (HSY.out _ _ HS1.out).mono ?_); rintro e w2 ⟨rfl, hS2⟩; have HS2 := Lib.hid hS2; clear hS2) | (go_at_call 80; (with_reducible refine (HS3.out.new2 (by omega) _ _).mono ?_); rintro e w4 ⟨b4, rfl, hS4⟩; have HS4 := Lib.hid hS4; clear hS4) | ((with_reducible refine (HC2.out _ _ HS2.out).mono ?_); rintro e w3 ⟨b3, rfl, hS3⟩; have HS3 := Lib.hid hS3; clear hS3) | ((with_reducible refine (HC.out _ _ HS.out).mono ?_); rintro e w1 ⟨b1, rfl, hS1⟩; have HS1 := Lib.hid hS1; clear hS1))
        go_ret
        exact HS4.out.done
end Go.Proofs.YtckfcpiedainfaaGreatDoor

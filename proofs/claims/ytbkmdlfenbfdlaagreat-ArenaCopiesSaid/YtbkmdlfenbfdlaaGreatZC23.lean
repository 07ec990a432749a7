/-
  WALKS: done: what an act makes of a model.
-/
import Derived.Test.YtbkmdlfenbfdlaaGreatZC22
namespace Go.Proofs.YtbkmdlfenbfdlaaGreat
open Go Go.RowKit Go.Sort
set_option linter.unusedVariables false
attribute [local go_sem ↓] Go.wp_at_zero Go.wp_at_succ
/-- an act -/
structure Ac where
  kind : Int
  a : Int
  b : Int
  at_ : Int
  word : ByteArray
  text : ByteArray
/-- what a call answers -/
def resR (next er : Int) (nds' : List Nd) : Int × Int × List Nd := if er = 0 then (next, 0, nds') else (0, er, [])
def actP (k : Nat) (next : Int) (nds : List Nd) (id y : Int) (role : ByteArray) (at_ : Int) (word text : ByteArray) : Int × Int × List Nd :=
  if k ≤ 1 then resR (next + 1) (addE next nds y role at_ ⟨#[78, 111, 100, 101]⟩) (addL next nds y role ⟨#[78, 111, 100, 101]⟩ (admV next nds y role at_ 1 1).1.toNat)
  else if k = 2 then resR next (moveE next nds id y role at_) (moveL next nds id y role at_)
  else if k = 3 then resR (next + (preI nds id).length) (copyE next nds id y role at_) (copyL next nds id y role at_)
  else if k = 4 then resR next (removeE next nds id) (removeL nds id)
  else if k = 5 then resR next (chE (putE next nds word text) nds id) (chL nds id fun nd => putN nd word text)
  else resR next (chE (aimE next nds word y) nds id) (chL nds id fun nd => aimN nd word y)
def plR (next : Int) (nds : List Nd) (b : Int) (word : ByteArray) : ByteArray := if pickV next nds b = 0 then ⟨#[]⟩ else word
def plA (next : Int) (nds : List Nd) (b at_ : Int) (word : ByteArray) : Int := if pickV next nds b = 0 then 0 else (restV at_ ((kidsR next nds (pickV next nds b) word).length + 1) : Nat)
/-- what an act makes of a model -/
def actR (next : Int) (nds : List Nd) (x : Ac) : Int × Int × List Nd := actP (restV x.kind 7) next nds (pickV next nds x.a) (pickV next nds x.b) (plR next nds x.b x.word) (plA next nds x.b x.at_ x.word) x.word x.text
theorem kidsR_len {next : Int} {nds : List Nd} {id : Int} {role : ByteArray} : (kidsR next nds id role).length ≤ 4096 := by
  unfold kidsR
  split
  · rename_i h
    simp only [Bool.and_eq_true] at h
    refine Nat.le_trans (List.length_filter_le ..) ?_
    unfold kidsV
    cases hx : ndOf nds id with
    | none => simp
    | some nd =>
      obtain ⟨i, _, hi, _⟩ := ndOf_some hx
      exact ((rightM h.1).kOk (List.mem_of_getElem? hi)).kl
  · simp
def TwoOwn (w : World) (r : Int × Int × List Nd) (e : Ending) (w' : World) : Prop :=
  ∃ (A : Option Addr) (m c : Nat) (l : List (Nd × Leaf)), e = .returned (.tuple #[.agg #[.int .i64 r.1, .slice A m c], .int .i64 r.2.1]) ∧ OwnM w' w.heap.size (.slice A m c) l ∧ l.length = m ∧ l.map (·.1) = r.2.2 ∧ Below w.heap.size w w'
def ThreeOwn (w : World) (r : Int × Int × List Nd) (e : Ending) (w' : World) : Prop :=
  ∃ (i : Int) (A : Option Addr) (m c : Nat) (l : List (Nd × Leaf)), e = .returned (.tuple #[.agg #[.int .i64 r.1, .slice A m c], .int .i64 i, .int .i64 r.2.1]) ∧ OwnM w' w.heap.size (.slice A m c) l ∧ l.length = m ∧ l.map (·.1) = r.2.2 ∧ Below w.heap.size w w'
theorem ownM_nil (w : World) (B : Nat) : OwnM w B (.slice none 0 0) [] := ⟨by unfold OwnN; exact ⟨by simp [allCells], .inl ⟨rfl, rfl⟩⟩, by simp⟩
theorem two_of {w w' : World} {next er : Int} {nds' : List Nd} {e : Ending} (h : SetPost w next er nds' e w') : TwoOwn w (resR next er nds') e w' := by
  obtain ⟨nx, A, n, c, he, hb, h1, h2⟩ := h
  unfold resR
  by_cases h0 : er = 0
  · rw [if_pos h0]
    obtain ⟨rfl, l, ho, hl, hm⟩ := h2 h0
    subst h0
    exact ⟨A, n, c, l, he, ho, hl, hm, hb⟩
  · rw [if_neg h0]
    obtain ⟨rfl, rfl, rfl, rfl⟩ := h1 h0
    exact ⟨none, 0, 0, [], he, ownM_nil _ _, rfl, rfl, hb⟩
theorem three_of_add {w w' : World} {next : Int} {nds : List Nd} {parent at_ : Int} {role con : ByteArray} {e : Ending} (h : AddPost w next nds parent role at_ con e w') :
    ThreeOwn w (resR (next + 1) (addE next nds parent role at_ con) (addL next nds parent role con (admV next nds parent role at_ 1 1).1.toNat)) e w' := by
  obtain ⟨hb, ⟨h0, he⟩ | ⟨h0, A, c, l, he, ho, hm⟩⟩ := h
  · unfold resR
    rw [if_neg h0]
    exact ⟨0, none, 0, 0, [], he, ownM_nil _ _, rfl, rfl, hb⟩
  · unfold resR
    rw [if_pos h0]
    refine ⟨next, A, nds.length + 1, c, l, he, ho, ?_, hm, hb⟩
    have h1 := congrArg List.length hm
    rw [List.length_map] at h1
    rw [h1]
    unfold addL
    split <;> simp
theorem three_of_copy {w w' : World} {next : Int} {nds : List Nd} {id parent at_ : Int} {role : ByteArray} {e : Ending} (h : CopyPost w next nds id parent role at_ e w') :
    ThreeOwn w (resR (next + (preI nds id).length) (copyE next nds id parent role at_) (copyL next nds id parent role at_)) e w' := by
  obtain ⟨nx, i, A, m, c, he, hb, h1, h2⟩ := h
  unfold resR
  by_cases h0 : copyE next nds id parent role at_ = 0
  · rw [if_pos h0]
    obtain ⟨rfl, rfl, l, ho, hl, hm⟩ := h2 h0
    rw [h0] at he
    exact ⟨_, A, m, c, l, he, ho, hl, hm, hb⟩
  · rw [if_neg h0]
    obtain ⟨rfl, rfl, rfl, rfl, rfl⟩ := h1 h0
    exact ⟨0, none, 0, 0, [], he, ownM_nil _ _, rfl, rfl, hb⟩
/-- what done answers -/
def DonePost (w : World) (next : Int) (A : Option Addr) (n c : Nat) (r : Int × Int × List Nd) (e : Ending) (w' : World) : Prop :=
  ∃ (x : Int) (A' : Option Addr) (n' c' : Nat), e = .returned (.tuple #[.agg #[.int .i64 x, .slice A' n' c'], .int .i64 r.2.1]) ∧ Below w.heap.size w w' ∧
    (r.2.1 ≠ 0 → x = next ∧ A' = A ∧ n' = n ∧ c' = c) ∧ (r.2.1 = 0 → x = r.1 ∧ ∃ l, OwnM w' w.heap.size (.slice A' n' c') l ∧ l.length = n' ∧ l.map (·.1) = r.2.2)
/-- the boxes of done -/
structure DB (w : World) (next : Int) (A : Option Addr) (n c : Nat) (kd xa xb xt : Int) (wd tx : ByteArray) (X : World) : Prop where
  m : Blk X w.heap.size 26 #[.int .i64 next, .slice A n c]
  a : Blk X (w.heap.size + 1) 32 #[.int .i64 kd, .int .i64 xa, .int .i64 xb, .int .i64 xt, .string wd, .string tx]
  r : Blk X (w.heap.size + 2) 26 #[.int .i64 0, .slice none 0 0]
  bel : Below w.heap.size w X
structure DO (w : World) (next : Int) (A : Option Addr) (n c : Nat) (kd xa xb xt : Int) (wd tx : ByteArray) (go : Nat) (nx : Int) (s : Sl) (X : World) : Prop where
  d : DB w next A n c kd xa xb xt wd tx X
  out : Blk X go 26 #[.int .i64 nx, .slice s.A s.n s.c]
  lt : w.heap.size + 2 < go
section
variable {w X X' : World} {next : Int} {A : Option Addr} {n c : Nat} {kd xa xb xt : Int} {wd tx : ByteArray} {go : Nat} {nx : Int} {s : Sl}
theorem DB.start (w : World) (next : Int) (A : Option Addr) (n c : Nat) (kd xa xb xt : Int) (wd tx : ByteArray) :
    DB w next A n c kd xa xb xt wd tx (((w.alloc (.cells #[.int .i64 next, .slice A n c] 26)).alloc (.cells #[.int .i64 kd, .int .i64 xa, .int .i64 xb, .int .i64 xt, .string wd, .string tx] 32)).alloc (.cells #[.int .i64 0, .slice none 0 0] 26)) :=
  ⟨((Blk.new _ _ _).alloc _).alloc _, (Blk.new' (by simp)).alloc _, Blk.new' (by simp), below_more (below_more (below_more (Below.refl _ _) _) _) _⟩
theorem DB.after (h : DB w next A n c kd xa xb xt wd tx X) (hb : Below X.heap.size X X') : DB w next A n c kd xa xb xt wd tx X' := ⟨h.m.after hb, h.a.after hb, h.r.after hb, h.bel.trans (hb.mono h.bel.size)⟩
theorem DB.more (h : DB w next A n c kd xa xb xt wd tx X) (nx : Int) (A' : Option Addr) (n' c' : Nat) : DO w next A n c kd xa xb xt wd tx X.heap.size nx ⟨A', n', c'⟩ (X.alloc (.cells #[.int .i64 nx, .slice A' n' c'] 26)) :=
  ⟨h.after (below_more (Below.refl _ _) _), Blk.new _ _ _, h.r.lt⟩
theorem DO.after (h : DO w next A n c kd xa xb xt wd tx go nx s X) (hb : Below X.heap.size X X') : DO w next A n c kd xa xb xt wd tx go nx s X' := ⟨h.d.after hb, h.out.after hb, h.lt⟩
theorem DO.set (h : DO w next A n c kd xa xb xt wd tx go nx s X) (nx' : Int) (A' : Option Addr) (n' c' : Nat) : DO w next A n c kd xa xb xt wd tx go nx' ⟨A', n', c'⟩ ((X.setCell ⟨go, 0, none⟩ (.int .i64 nx')).setCell ⟨go, 1, none⟩ (.slice A' n' c')) := by
  have hl := h.lt
  have far : ∀ {g : Nat} {t : TypeId} {cs : Array Value}, g < go → Blk X g t cs → Blk ((X.setCell ⟨go, 0, none⟩ (.int .i64 nx')).setCell ⟨go, 1, none⟩ (.slice A' n' c')) g t cs := fun hg hb => (hb.far (p := ⟨go, 0, none⟩) (by simp; omega) _).far (p := ⟨go, 1, none⟩) (by simp; omega) _
  refine ⟨⟨far (by omega) h.d.m, far (by omega) h.d.a, far (by omega) h.d.r, (h.d.bel.setCell (p := ⟨go, 0, none⟩) (by simp; omega) _).setCell (p := ⟨go, 1, none⟩) (by simp; omega) _⟩, ?_, hl⟩
  simpa using (h.out.set_ 0 (.int .i64 nx')).set_ 1 (.slice A' n' c')
end
set_option maxRecDepth 20000 in
set_option maxHeartbeats 3200000 in
theorem done_k0 (w : World) (hi : Nat) (next : Int) (A : Option Addr) (n c : Nat) (nds : List Nd) (kd xa xb xt : Int) (wd tx : ByteArray) (h : NodesIn w 0 hi A n c nds) (hh : hi ≤ w.heap.size) (hsw : wd.size ≤ maxLen) (hst : tx.size ≤ maxLen) (hf : ∀ nd ∈ nds, Fits 1 nd) (hk : restV kd 7 = 0) :
    Calls Tryz.prog 9 #[.agg #[.int .i64 next, .slice A n c], .agg #[.int .i64 kd, .int .i64 xa, .int .i64 xb, .int .i64 xt, .string wd, .string tx]] w (DonePost w next A n c (actR next nds ⟨kd, xa, xb, xt, wd, tx⟩)) := by
  have hres : Tryz.f9.results = #[.cell 4 26, .tmp 5] := by kernel_rfl
  have hc := h.2.2.1
  have hnc := h.2.1
  have HD0 := Lib.hid (DB.start w next A n c kd xa xb xt wd tx)
  obtain ⟨id, hid⟩ : ∃ id, pickV next nds xa = id := ⟨_, rfl⟩
  obtain ⟨y, hy⟩ : ∃ y, pickV next nds xb = y := ⟨_, rfl⟩
  obtain ⟨ks, hks⟩ : ∃ ks, kidsR next nds y wd = ks := ⟨_, rfl⟩
  have hkl : ks.length ≤ 4096 := by rw [← hks]; exact kidsR_len
  obtain ⟨rl, hrl⟩ : ∃ rl, plR next nds xb wd = rl := ⟨_, rfl⟩
  obtain ⟨ra, hra⟩ : ∃ ra, plA next nds xb xt wd = ra := ⟨_, rfl⟩
  have hrs : rl.size ≤ maxLen := by
    rw [← hrl]
    unfold plR
    split
    · decide
    · exact hsw
  obtain ⟨R, hR⟩ : ∃ R, resR (next + 1) (addE next nds y rl ra ⟨#[78, 111, 100, 101]⟩) (addL next nds y rl ⟨#[78, 111, 100, 101]⟩ (admV next nds y rl ra 1 1).1.toNat) = R := ⟨_, rfl⟩
  have HAct : Hid (actR next nds ⟨kd, xa, xb, xt, wd, tx⟩ = R) := Lib.hid (by
    unfold actR actP
    simp only [hk, hid, hy, hrl, hra]
    exact hR)
  have HPa : Hid (∀ X, Below w.heap.size w X → ∀ z, Calls Tryz.prog 15 #[.agg #[.int .i64 next, .slice A n c], .int .i64 z] X (Ret X (.int .i64 (pickV next nds z)))) := Lib.hid fun X hX z => pick_any X hi next z A n c nds (h.below (hX.mono hh)) (Nat.le_trans hh hX.size)
  have HKi : Hid (∀ X, Below w.heap.size w X → Calls Tryz.prog 17 #[.agg #[.int .i64 next, .slice A n c], .int .i64 y, .string wd] X (ListR X ks)) := Lib.hid fun X hX => hks ▸ kidsQ_any X hi next y wd A n c nds (h.below (hX.mono hh)) (Nat.le_trans hh hX.size)
  obtain ⟨rr, hrr⟩ : ∃ rr, restV xt (ks.length + 1) = rr := ⟨_, rfl⟩
  have HRt : Hid (∀ X, Calls Tryz.prog 16 #[.int .i64 xt, .int .i64 (ks.length + 1)] X fun e w' => e = .returned (.int .i64 rr) ∧ X = w') := Lib.hid fun X => by
    have := rest_any X xt (ks.length + 1) (by omega) (by omega)
    rw [hrr] at this
    exact this
  have HRk : Hid (∀ X, Calls Tryz.prog 16 #[.int .i64 kd, .int .i64 7] X fun e w' => e = .returned (.int .i64 0) ∧ X = w') := Lib.hid fun X => by
    have := rest_any X kd 7 (by omega) (by omega)
    rw [hk] at this
    exact this
  have HRL : Hid ((y = 0 → rl = ⟨#[]⟩ ∧ ra = 0) ∧ (y ≠ 0 → rl = wd ∧ ra = rr)) := Lib.hid (by
    rw [← hrl, ← hra]
    unfold plR plA
    rw [hy, hks, hrr]
    exact ⟨fun h => by rw [if_pos h, if_pos h]; exact ⟨rfl, rfl⟩, fun h => by rw [if_neg h, if_neg h]; exact ⟨rfl, rfl⟩⟩)
  have HCa : Hid (∀ X, Below w.heap.size w X → Calls Tryz.prog 18 #[.agg #[.int .i64 next, .slice A n c], .int .i64 y, .string rl, .int .i64 ra, .string ⟨#[78, 111, 100, 101]⟩] X (ThreeOwn X R)) := Lib.hid fun X hX => (add_any X hi next y ra rl ⟨#[78, 111, 100, 101]⟩ A n c nds (h.below (hX.mono hh)) (Nat.le_trans hh hX.size) hrs (by decide) hf).mono fun e w' he => hR ▸ three_of_add he
  have hPid : Hid (pickV next nds xa = id) := Lib.hid hid
  have hPy : Hid (pickV next nds xb = y) := Lib.hid hy
  have HSof : Hid (∀ X, DB w next A n c kd xa xb xt wd tx X → X.cell? ⟨w.heap.size, 0, none⟩ = some (.int .i64 next) ∧ X.cell? ⟨w.heap.size, 1, none⟩ = some (.slice A n c) ∧ X.cell? ⟨w.heap.size + 1, 3, none⟩ = some (.int .i64 xt)) := Lib.hid fun X hX => ⟨(hX.m.cell 0).trans rfl, (hX.m.cell 1).trans rfl, (hX.a.cell 3).trans rfl⟩
  have hkw : IntKind.i64.wrap ((ks.length : Int) + 1) = (ks.length : Int) + 1 := IntWalk.i64_in _ (by omega)
  obtain ⟨Rx, Re, Rn⟩ := R
  clear h hh hf hR hid hy hks hrr hrl hra hrs hsw hst hk hkl hc hnc
  go_enter Tryz.func9, Tryz.ntmps9
  go_upto_region 1 with (fail)
  generalize ((w.alloc (.cells #[.int .i64 next, .slice A n c] 26)).alloc (.cells #[.int .i64 kd, .int .i64 xa, .int .i64 xb, .int .i64 xt, .string wd, .string tx] 32)).alloc (.cells #[.int .i64 0, .slice none 0 0] 26) = X0 at HD0 ⊢
  have q0 := cell_regrown ((HD0.out.m.cell 0).trans (show _ = some (.int .i64 next) from rfl))
  have q1 := cell_regrown ((HD0.out.m.cell 1).trans (show _ = some (.slice A n c) from rfl))
  have q2 := cell_regrown ((HD0.out.a.cell 1).trans (show _ = some (.int .i64 xa) from rfl))
  have q3 := cell_regrown ((HD0.out.a.cell 2).trans (show _ = some (.int .i64 xb) from rfl))
  have HPa1 : Hid (∀ d os, Calls Tryz.prog 15 #[.agg #[.int .i64 next, .slice A n c], .int .i64 xa] (grow (redrawn X0 d) os) (Ret (grow (redrawn X0 d) os) (.int .i64 id))) := Lib.hid fun d os => hPid.out ▸ HPa.out _ (HD0.out.bel.trans ((below_regrown X0 d os).mono HD0.out.bel.size)) xa
  have HPb1 : Hid (∀ d os, Calls Tryz.prog 15 #[.agg #[.int .i64 next, .slice A n c], .int .i64 xb] (grow (redrawn X0 d) os) (Ret (grow (redrawn X0 d) os) (.int .i64 y))) := Lib.hid fun d os => hPy.out ▸ HPa.out _ (HD0.out.bel.trans ((below_regrown X0 d os).mono HD0.out.bel.size)) xb
  refine wp_region_quiet_below (by kernel_rfl) (by kernel_rfl) ?_
  repeat (go_big_quiet_step ((first | (go_at_call_has 15 xa; exact regrown_ret (HPa1.out _ _)) | (go_at_call_has 15 xb; exact regrown_ret (HPb1.out _ _)))))
  refine wpQuiet_nil ?_
  intro _ hw'
  obtain ⟨⟨dq, osq⟩, hw''⟩ := hw'
  subst hw''
  have HX := Lib.hid (HD0.out.after (below_regrown _ dq osq))
  generalize grow (redrawn _ dq) osq = X1 at HX ⊢
  clear q0 q1 q2 q3 HD0
  have c4 := (HX.out.a.cell 4).trans (show _ = some (.string wd) from rfl)
  go_upto_region 3 with (fail)
  clear c4
  replace HX := Lib.hid (HX.out.after (below_drew1 _))
  refine wp_region_held_tail 9 (fun w' => w'.cell? ⟨w.heap.size, 0, none⟩ = some (.int .i64 next) ∧ w'.cell? ⟨w.heap.size, 1, none⟩ = some (.slice A n c) ∧ w'.cell? ⟨w.heap.size + 1, 3, none⟩ = some (.int .i64 xt)) (by kernel_rfl) (by kernel_rfl) ?hSt (fun hHeld => ?qt0)
  case hSt => exact HSof.out _ HX.out
  case qt0 =>
    generalize X1.drew = wz at HX hHeld ⊢
    simp only [List.take_succ_cons, List.take_zero, List.drop_succ_cons, List.drop_zero]
    refine wpAnyH_take (i := 0) (v := (.pointer (some ⟨w.heap.size + 1, 3, none⟩))) rfl (by kernel_rfl) (by kernel_rfl) (by kernel_rfl) (fun _ _ _ h => h) (Or.inl ⟨by rfl, ?yt_1⟩) (by assumption) ?qt_1
    case yt_1 => (intro w hSw; (try dsimp only at hSw); go_simp)
    case qt_1 =>
      (try simp only [Act.put]); (try simp only [List.setIfInBounds_toArray])
      refine wpAnyH_take (i := 1) (v := (.int .i64 xt)) rfl (by kernel_rfl) (by kernel_rfl) (by kernel_rfl) (fun _ _ _ h => h) (Or.inl ⟨by rfl, ?yt_2⟩) (by assumption) ?qt_2
      case yt_2 => (intro w hSw; (try dsimp only at hSw); go_simp)
      case qt_2 =>
        (try simp only [Act.put]); (try simp only [List.setIfInBounds_toArray])
        refine wpAnyH_take (i := 2) (v := (.agg #[.int .i64 next, .slice A n c])) rfl (by kernel_rfl) (by kernel_rfl) (by kernel_rfl) (fun _ _ _ h => h) (Or.inl ⟨by rfl, ?yt_3⟩) (by assumption) ?qt_3
        case yt_3 => (intro w hSw; (try dsimp only at hSw); go_simp)
        case qt_3 =>
          (try simp only [Act.put]); (try simp only [List.setIfInBounds_toArray])
          refine wpAnyH_take (i := 3) (v := (.int .i64 y)) rfl (by kernel_rfl) (by kernel_rfl) (by kernel_rfl) (fun _ _ _ h => h) (Or.inl ⟨by rfl, ?yt_4⟩) (by assumption) ?qt_4
          case yt_4 => (intro w hSw; (try dsimp only at hSw); go_simp)
          case qt_4 =>
            (try simp only [Act.put]); (try simp only [List.setIfInBounds_toArray])
            refine wpAnyH_take (i := 4) (v := (.string wd)) rfl (by kernel_rfl) (by kernel_rfl) (by kernel_rfl) (fun _ _ _ h => h) (Or.inl ⟨by rfl, ?yt_5⟩) (by assumption) ?qt_5
            case yt_5 => (intro w hSw; (try dsimp only at hSw); go_simp)
            case qt_5 =>
              (try simp only [Act.put]); (try simp only [List.setIfInBounds_toArray])
              refine wpAnyH_ready (rs := [5]) (by kernel_rfl) (by simp) ?_
              refine AllReadyH.cons rfl (fun K hK => ?st_6) ?mt_6
              case st_6 =>
                (refine step_call _ (by rfl) 17 #[.agg #[.int .i64 next, .slice A n c], .int .i64 y, .string wd] (by go_simp) (HKi.out _ HX.out.bel) ?_; rintro e Yb ⟨v, rfl, hvk, hbb⟩; obtain ⟨Ak, ck, hke⟩ := own_form hvk; subst hke; refine ⟨_, rfl, ?_⟩; replace HX := Lib.hid (HX.out.after hbb); clear hbb hvk)
                refine hK.out _ _ ?kt_6 (fun hHeld => ?qt_6)
                case kt_6 => ((try dsimp only); exact HSof.out _ HX.out)
                case qt_6 =>
                  clear hK K
                  (try simp only [Act.put]); (try simp only [List.setIfInBounds_toArray])
                  refine wpAnyH_take (i := 6) (v := (.int .i64 ks.length)) rfl (by kernel_rfl) (by kernel_rfl) (by kernel_rfl) (fun _ _ _ h => h) (Or.inl ⟨by rfl, ?yt_7⟩) (by assumption) ?qt_7
                  case yt_7 => (intro w hSw; (try dsimp only at hSw); go_simp)
                  case qt_7 =>
                    (try simp only [Act.put]); (try simp only [List.setIfInBounds_toArray])
                    refine wpAnyH_take (i := 7) (v := (.int .i64 (ks.length + 1))) rfl (by kernel_rfl) (by kernel_rfl) (by kernel_rfl) (fun _ _ _ h => h) (Or.inl ⟨by rfl, ?yt_8⟩) (by assumption) ?qt_8
                    case yt_8 => (intro w hSw; (try dsimp only at hSw); go_simp)
                    case qt_8 =>
                      (try simp only [Act.put]); (try simp only [List.setIfInBounds_toArray])
                      refine wpAnyH_ready (rs := [8]) (by kernel_rfl) (by simp) ?_
                      refine AllReadyH.cons rfl (fun K hK => ?st_9) ?mt_9
                      case st_9 =>
                        (refine step_call _ (by rfl) 16 #[.int .i64 xt, .int .i64 (ks.length + 1)] (by go_simp) (HRt.out _) ?_; rintro e Yc ⟨rfl, rfl⟩; refine ⟨_, rfl, ?_⟩)
                        refine hK.out _ _ ?kt_9 (fun hHeld => ?qt_9)
                        case kt_9 => ((try dsimp only); exact HSof.out _ HX.out)
                        case qt_9 =>
                          clear hK K
                          (try simp only [Act.put]); (try simp only [List.setIfInBounds_toArray])
                          refine wpAnyH_done (by kernel_rfl) ?_ _
                          show wpList _ _ _ _ _ _
                          clear hHeld
                          go_upto_if 32 with (fail)
                          rename World => X2
                          go_cut [8, 9] (fun s8 s9 wx => s8 = .string rl ∧ s9 = .int .i64 ra ∧ X2 = wx)
                          case first =>
                            by_cases hy0 : y = 0
                            · have hyb : (y == 0) = true := by rw [beq_iff_eq]; exact hy0
                              have HYL := Lib.hid (HRL.out.1 hy0)
                              clear hy0
                              go_wp2_with fail
                              go_meet
                              exact ⟨by rw [HYL.out.1], by rw [HYL.out.2], rfl⟩
                            · have hyb : (y == 0) = false := by rw [beq_eq_false_iff_ne]; exact hy0
                              have HYL := Lib.hid (HRL.out.2 hy0)
                              clear hy0
                              go_wp2_with fail
                              go_meet
                              exact ⟨by rw [HYL.out.1], by rw [HYL.out.2], rfl⟩
                          case rest =>
                            obtain ⟨rfl, rfl, rfl⟩ := hcut
                            have m0 := (HX.out.m.cell 0).trans (show _ = some (.int .i64 next) from rfl)
                            have m1 := (HX.out.m.cell 1).trans (show _ = some (.slice A n c) from rfl)
                            have a0 := (HX.out.a.cell 0).trans (show _ = some (.int .i64 kd) from rfl)
                            have HO := Lib.hid (HX.out.more next A n c)
                            go_upto_region 7 with (fail)
                            generalize X2.alloc (.cells #[.int .i64 next, .slice A n c] 26) = X3 at HO ⊢
                            generalize X2.heap.size = go at HO ⊢
                            clear m0 m1 a0
                            have m0 := (HO.out.d.m.cell 0).trans (show _ = some (.int .i64 next) from rfl)
                            have m1 := (HO.out.d.m.cell 1).trans (show _ = some (.slice A n c) from rfl)
                            have a0 := (HO.out.d.a.cell 0).trans (show _ = some (.int .i64 kd) from rfl)
                            have a4 := (HO.out.d.a.cell 4).trans (show _ = some (.string wd) from rfl)
                            have a5 := (HO.out.d.a.cell 5).trans (show _ = some (.string tx) from rfl)
                            have o0 := (HO.out.out.cell 0).trans (show _ = some (.int .i64 next) from rfl)
                            have o1 := (HO.out.out.cell 1).trans (show _ = some (.slice A n c) from rfl)
                            have o2 := HO.out.out.frozen 0
                            have o3 := HO.out.out.frozen 1
                            go_upto_region 20 with (first | (go_at_call 16; (with_reducible refine (HRk.out _).mono ?_); go_must (rintro e wk ⟨rfl, rfl⟩)) | (go_at_call 18; (with_reducible refine (HCa.out _ HO.out.d.bel).mono ?_); go_must (rintro e w5 ⟨i5, A5, n5, c5, l5, rfl, ho5, hl5, hm5, hb5⟩; replace ho5 := ho5.mono HO.out.d.bel.size; have hO5 := HO.out.after hb5; have hs5 := hO5.set Rx A5 n5 c5; have hq5 := (ho5.other hO5.out 0 (.int .i64 Rx)).other (hO5.out.set_ 0 _) 1 (.slice A5 n5 c5); have p0 := (hO5.out.cell 0).trans (show _ = some (.int .i64 next) from rfl); have p1 := (hO5.out.cell 1).trans (show _ = some (.slice A n c) from rfl); have p2 := hO5.out.frozen 0; have p3 := hO5.out.frozen 1; have HS5 := Lib.hid hs5; have HQ5 := Lib.hid hq5; have HL5 := Lib.hid hl5; have HM5 := Lib.hid hm5; clear ho5 hO5 hs5 hq5 hl5 hm5 hb5)))
                            generalize (w5.setCell ⟨go, 0, none⟩ (.int .i64 Rx)).setCell ⟨go, 1, none⟩ (.slice A5 n5 c5) = Y at HS5 HQ5 ⊢
                            clear m0 m1 a0 a4 a5 o0 o1 o2 o3 p0 p1 p2 p3 HO
                            have y0 := (HS5.out.out.cell 0).trans (show _ = some (.int .i64 Rx) from rfl)
                            have y1 := (HS5.out.out.cell 1).trans (show _ = some (.slice A5 n5 c5) from rfl)
                            have m0 := (HS5.out.d.m.cell 0).trans (show _ = some (.int .i64 next) from rfl)
                            have m1 := (HS5.out.d.m.cell 1).trans (show _ = some (.slice A n c) from rfl)
                            have r0 : Y.cell? ⟨w.heap.size + 1 + 1, 0, none⟩ = some (.int .i64 0) := (HS5.out.d.r.cell 0).trans rfl
                            have r1 : Y.cell? ⟨w.heap.size + 1 + 1, 1, none⟩ = some (.slice none 0 0) := (HS5.out.d.r.cell 1).trans rfl
                            have r2 : Y.frozen? ⟨w.heap.size + 1 + 1, 0, none⟩ = false := HS5.out.d.r.frozen 0
                            have r3 : Y.frozen? ⟨w.heap.size + 1 + 1, 1, none⟩ = false := HS5.out.d.r.frozen 1
                            by_cases he : Re = 0
                            · have heb : (Re != 0) = false := by rw [he]; rfl
                              have HE := Lib.hid he
                              clear he
                              go_wp2_with fail
                              (try rw [Exit.noGoto_ret])
                              (try simp only [Exit.inBlock, Exit.then])
                              refine bodyPost_ret (v := .tuple #[.agg #[.int .i64 Rx, .slice A5 n5 c5], .int .i64 Re]) ?hr rfl ?_
                              case hr =>
                                simp only [results, hres]
                                go_simp
                              rw [HAct.out]
                              exact ⟨Rx, A5, n5, c5, rfl, (HS5.out.d.bel.setCell (p := ⟨w.heap.size + 1 + 1, 0, none⟩) (by simp; omega) _).setCell (p := ⟨w.heap.size + 1 + 1, 1, none⟩) (by simp; omega) _, fun h => absurd HE.out h, fun _ => ⟨rfl, l5, (HQ5.out.other HS5.out.d.r 0 _).other (HS5.out.d.r.set_ 0 _) 1 _, HL5.out, HM5.out⟩⟩
                            · have heb : (Re != 0) = true := by rw [bne_iff_ne]; exact he
                              have HE := Lib.hid he
                              clear he
                              go_wp2_with fail
                              (try rw [Exit.noGoto_ret])
                              (try simp only [Exit.inBlock, Exit.then])
                              refine bodyPost_ret (v := .tuple #[.agg #[.int .i64 next, .slice A n c], .int .i64 Re]) ?hr rfl ?_
                              case hr =>
                                simp only [results, hres]
                                go_simp
                              rw [HAct.out]
                              exact ⟨next, A, n, c, rfl, (HS5.out.d.bel.setCell (p := ⟨w.heap.size + 1 + 1, 0, none⟩) (by simp; omega) _).setCell (p := ⟨w.heap.size + 1 + 1, 1, none⟩) (by simp; omega) _, fun _ => ⟨rfl, rfl, rfl, rfl⟩, fun h => absurd h HE.out⟩
                      case mt_9 =>
                        exact AllReadyH.nil
              case mt_6 =>
                exact AllReadyH.nil
set_option maxRecDepth 20000 in
set_option maxHeartbeats 3200000 in
theorem done_k1 (w : World) (hi : Nat) (next : Int) (A : Option Addr) (n c : Nat) (nds : List Nd) (kd xa xb xt : Int) (wd tx : ByteArray) (h : NodesIn w 0 hi A n c nds) (hh : hi ≤ w.heap.size) (hsw : wd.size ≤ maxLen) (hst : tx.size ≤ maxLen) (hf : ∀ nd ∈ nds, Fits 1 nd) (hk : restV kd 7 = 1) :
    Calls Tryz.prog 9 #[.agg #[.int .i64 next, .slice A n c], .agg #[.int .i64 kd, .int .i64 xa, .int .i64 xb, .int .i64 xt, .string wd, .string tx]] w (DonePost w next A n c (actR next nds ⟨kd, xa, xb, xt, wd, tx⟩)) := by
  have hres : Tryz.f9.results = #[.cell 4 26, .tmp 5] := by kernel_rfl
  have hc := h.2.2.1
  have hnc := h.2.1
  have HD0 := Lib.hid (DB.start w next A n c kd xa xb xt wd tx)
  obtain ⟨id, hid⟩ : ∃ id, pickV next nds xa = id := ⟨_, rfl⟩
  obtain ⟨y, hy⟩ : ∃ y, pickV next nds xb = y := ⟨_, rfl⟩
  obtain ⟨ks, hks⟩ : ∃ ks, kidsR next nds y wd = ks := ⟨_, rfl⟩
  have hkl : ks.length ≤ 4096 := by rw [← hks]; exact kidsR_len
  obtain ⟨rl, hrl⟩ : ∃ rl, plR next nds xb wd = rl := ⟨_, rfl⟩
  obtain ⟨ra, hra⟩ : ∃ ra, plA next nds xb xt wd = ra := ⟨_, rfl⟩
  have hrs : rl.size ≤ maxLen := by
    rw [← hrl]
    unfold plR
    split
    · decide
    · exact hsw
  obtain ⟨R, hR⟩ : ∃ R, resR (next + 1) (addE next nds y rl ra ⟨#[78, 111, 100, 101]⟩) (addL next nds y rl ⟨#[78, 111, 100, 101]⟩ (admV next nds y rl ra 1 1).1.toNat) = R := ⟨_, rfl⟩
  have HAct : Hid (actR next nds ⟨kd, xa, xb, xt, wd, tx⟩ = R) := Lib.hid (by
    unfold actR actP
    simp only [hk, hid, hy, hrl, hra]
    exact hR)
  have HPa : Hid (∀ X, Below w.heap.size w X → ∀ z, Calls Tryz.prog 15 #[.agg #[.int .i64 next, .slice A n c], .int .i64 z] X (Ret X (.int .i64 (pickV next nds z)))) := Lib.hid fun X hX z => pick_any X hi next z A n c nds (h.below (hX.mono hh)) (Nat.le_trans hh hX.size)
  have HKi : Hid (∀ X, Below w.heap.size w X → Calls Tryz.prog 17 #[.agg #[.int .i64 next, .slice A n c], .int .i64 y, .string wd] X (ListR X ks)) := Lib.hid fun X hX => hks ▸ kidsQ_any X hi next y wd A n c nds (h.below (hX.mono hh)) (Nat.le_trans hh hX.size)
  obtain ⟨rr, hrr⟩ : ∃ rr, restV xt (ks.length + 1) = rr := ⟨_, rfl⟩
  have HRt : Hid (∀ X, Calls Tryz.prog 16 #[.int .i64 xt, .int .i64 (ks.length + 1)] X fun e w' => e = .returned (.int .i64 rr) ∧ X = w') := Lib.hid fun X => by
    have := rest_any X xt (ks.length + 1) (by omega) (by omega)
    rw [hrr] at this
    exact this
  have HRk : Hid (∀ X, Calls Tryz.prog 16 #[.int .i64 kd, .int .i64 7] X fun e w' => e = .returned (.int .i64 1) ∧ X = w') := Lib.hid fun X => by
    have := rest_any X kd 7 (by omega) (by omega)
    rw [hk] at this
    exact this
  have HRL : Hid ((y = 0 → rl = ⟨#[]⟩ ∧ ra = 0) ∧ (y ≠ 0 → rl = wd ∧ ra = rr)) := Lib.hid (by
    rw [← hrl, ← hra]
    unfold plR plA
    rw [hy, hks, hrr]
    exact ⟨fun h => by rw [if_pos h, if_pos h]; exact ⟨rfl, rfl⟩, fun h => by rw [if_neg h, if_neg h]; exact ⟨rfl, rfl⟩⟩)
  have HCa : Hid (∀ X, Below w.heap.size w X → Calls Tryz.prog 18 #[.agg #[.int .i64 next, .slice A n c], .int .i64 y, .string rl, .int .i64 ra, .string ⟨#[78, 111, 100, 101]⟩] X (ThreeOwn X R)) := Lib.hid fun X hX => (add_any X hi next y ra rl ⟨#[78, 111, 100, 101]⟩ A n c nds (h.below (hX.mono hh)) (Nat.le_trans hh hX.size) hrs (by decide) hf).mono fun e w' he => hR ▸ three_of_add he
  have hPid : Hid (pickV next nds xa = id) := Lib.hid hid
  have hPy : Hid (pickV next nds xb = y) := Lib.hid hy
  have HSof : Hid (∀ X, DB w next A n c kd xa xb xt wd tx X → X.cell? ⟨w.heap.size, 0, none⟩ = some (.int .i64 next) ∧ X.cell? ⟨w.heap.size, 1, none⟩ = some (.slice A n c) ∧ X.cell? ⟨w.heap.size + 1, 3, none⟩ = some (.int .i64 xt)) := Lib.hid fun X hX => ⟨(hX.m.cell 0).trans rfl, (hX.m.cell 1).trans rfl, (hX.a.cell 3).trans rfl⟩
  have hkw : IntKind.i64.wrap ((ks.length : Int) + 1) = (ks.length : Int) + 1 := IntWalk.i64_in _ (by omega)
  obtain ⟨Rx, Re, Rn⟩ := R
  clear h hh hf hR hid hy hks hrr hrl hra hrs hsw hst hk hkl hc hnc
  go_enter Tryz.func9, Tryz.ntmps9
  go_upto_region 1 with (fail)
  generalize ((w.alloc (.cells #[.int .i64 next, .slice A n c] 26)).alloc (.cells #[.int .i64 kd, .int .i64 xa, .int .i64 xb, .int .i64 xt, .string wd, .string tx] 32)).alloc (.cells #[.int .i64 0, .slice none 0 0] 26) = X0 at HD0 ⊢
  have q0 := cell_regrown ((HD0.out.m.cell 0).trans (show _ = some (.int .i64 next) from rfl))
  have q1 := cell_regrown ((HD0.out.m.cell 1).trans (show _ = some (.slice A n c) from rfl))
  have q2 := cell_regrown ((HD0.out.a.cell 1).trans (show _ = some (.int .i64 xa) from rfl))
  have q3 := cell_regrown ((HD0.out.a.cell 2).trans (show _ = some (.int .i64 xb) from rfl))
  have HPa1 : Hid (∀ d os, Calls Tryz.prog 15 #[.agg #[.int .i64 next, .slice A n c], .int .i64 xa] (grow (redrawn X0 d) os) (Ret (grow (redrawn X0 d) os) (.int .i64 id))) := Lib.hid fun d os => hPid.out ▸ HPa.out _ (HD0.out.bel.trans ((below_regrown X0 d os).mono HD0.out.bel.size)) xa
  have HPb1 : Hid (∀ d os, Calls Tryz.prog 15 #[.agg #[.int .i64 next, .slice A n c], .int .i64 xb] (grow (redrawn X0 d) os) (Ret (grow (redrawn X0 d) os) (.int .i64 y))) := Lib.hid fun d os => hPy.out ▸ HPa.out _ (HD0.out.bel.trans ((below_regrown X0 d os).mono HD0.out.bel.size)) xb
  refine wp_region_quiet_below (by kernel_rfl) (by kernel_rfl) ?_
  repeat (go_big_quiet_step ((first | (go_at_call_has 15 xa; exact regrown_ret (HPa1.out _ _)) | (go_at_call_has 15 xb; exact regrown_ret (HPb1.out _ _)))))
  refine wpQuiet_nil ?_
  intro _ hw'
  obtain ⟨⟨dq, osq⟩, hw''⟩ := hw'
  subst hw''
  have HX := Lib.hid (HD0.out.after (below_regrown _ dq osq))
  generalize grow (redrawn _ dq) osq = X1 at HX ⊢
  clear q0 q1 q2 q3 HD0
  have c4 := (HX.out.a.cell 4).trans (show _ = some (.string wd) from rfl)
  go_upto_region 3 with (fail)
  clear c4
  replace HX := Lib.hid (HX.out.after (below_drew1 _))
  refine wp_region_held_tail 9 (fun w' => w'.cell? ⟨w.heap.size, 0, none⟩ = some (.int .i64 next) ∧ w'.cell? ⟨w.heap.size, 1, none⟩ = some (.slice A n c) ∧ w'.cell? ⟨w.heap.size + 1, 3, none⟩ = some (.int .i64 xt)) (by kernel_rfl) (by kernel_rfl) ?hSt (fun hHeld => ?qt0)
  case hSt => exact HSof.out _ HX.out
  case qt0 =>
    generalize X1.drew = wz at HX hHeld ⊢
    simp only [List.take_succ_cons, List.take_zero, List.drop_succ_cons, List.drop_zero]
    refine wpAnyH_take (i := 0) (v := (.pointer (some ⟨w.heap.size + 1, 3, none⟩))) rfl (by kernel_rfl) (by kernel_rfl) (by kernel_rfl) (fun _ _ _ h => h) (Or.inl ⟨by rfl, ?yt_1⟩) (by assumption) ?qt_1
    case yt_1 => (intro w hSw; (try dsimp only at hSw); go_simp)
    case qt_1 =>
      (try simp only [Act.put]); (try simp only [List.setIfInBounds_toArray])
      refine wpAnyH_take (i := 1) (v := (.int .i64 xt)) rfl (by kernel_rfl) (by kernel_rfl) (by kernel_rfl) (fun _ _ _ h => h) (Or.inl ⟨by rfl, ?yt_2⟩) (by assumption) ?qt_2
      case yt_2 => (intro w hSw; (try dsimp only at hSw); go_simp)
      case qt_2 =>
        (try simp only [Act.put]); (try simp only [List.setIfInBounds_toArray])
        refine wpAnyH_take (i := 2) (v := (.agg #[.int .i64 next, .slice A n c])) rfl (by kernel_rfl) (by kernel_rfl) (by kernel_rfl) (fun _ _ _ h => h) (Or.inl ⟨by rfl, ?yt_3⟩) (by assumption) ?qt_3
        case yt_3 => (intro w hSw; (try dsimp only at hSw); go_simp)
        case qt_3 =>
          (try simp only [Act.put]); (try simp only [List.setIfInBounds_toArray])
          refine wpAnyH_take (i := 3) (v := (.int .i64 y)) rfl (by kernel_rfl) (by kernel_rfl) (by kernel_rfl) (fun _ _ _ h => h) (Or.inl ⟨by rfl, ?yt_4⟩) (by assumption) ?qt_4
          case yt_4 => (intro w hSw; (try dsimp only at hSw); go_simp)
          case qt_4 =>
            (try simp only [Act.put]); (try simp only [List.setIfInBounds_toArray])
            refine wpAnyH_take (i := 4) (v := (.string wd)) rfl (by kernel_rfl) (by kernel_rfl) (by kernel_rfl) (fun _ _ _ h => h) (Or.inl ⟨by rfl, ?yt_5⟩) (by assumption) ?qt_5
            case yt_5 => (intro w hSw; (try dsimp only at hSw); go_simp)
            case qt_5 =>
              (try simp only [Act.put]); (try simp only [List.setIfInBounds_toArray])
              refine wpAnyH_ready (rs := [5]) (by kernel_rfl) (by simp) ?_
              refine AllReadyH.cons rfl (fun K hK => ?st_6) ?mt_6
              case st_6 =>
                (refine step_call _ (by rfl) 17 #[.agg #[.int .i64 next, .slice A n c], .int .i64 y, .string wd] (by go_simp) (HKi.out _ HX.out.bel) ?_; rintro e Yb ⟨v, rfl, hvk, hbb⟩; obtain ⟨Ak, ck, hke⟩ := own_form hvk; subst hke; refine ⟨_, rfl, ?_⟩; replace HX := Lib.hid (HX.out.after hbb); clear hbb hvk)
                refine hK.out _ _ ?kt_6 (fun hHeld => ?qt_6)
                case kt_6 => ((try dsimp only); exact HSof.out _ HX.out)
                case qt_6 =>
                  clear hK K
                  (try simp only [Act.put]); (try simp only [List.setIfInBounds_toArray])
                  refine wpAnyH_take (i := 6) (v := (.int .i64 ks.length)) rfl (by kernel_rfl) (by kernel_rfl) (by kernel_rfl) (fun _ _ _ h => h) (Or.inl ⟨by rfl, ?yt_7⟩) (by assumption) ?qt_7
                  case yt_7 => (intro w hSw; (try dsimp only at hSw); go_simp)
                  case qt_7 =>
                    (try simp only [Act.put]); (try simp only [List.setIfInBounds_toArray])
                    refine wpAnyH_take (i := 7) (v := (.int .i64 (ks.length + 1))) rfl (by kernel_rfl) (by kernel_rfl) (by kernel_rfl) (fun _ _ _ h => h) (Or.inl ⟨by rfl, ?yt_8⟩) (by assumption) ?qt_8
                    case yt_8 => (intro w hSw; (try dsimp only at hSw); go_simp)
                    case qt_8 =>
                      (try simp only [Act.put]); (try simp only [List.setIfInBounds_toArray])
                      refine wpAnyH_ready (rs := [8]) (by kernel_rfl) (by simp) ?_
                      refine AllReadyH.cons rfl (fun K hK => ?st_9) ?mt_9
                      case st_9 =>
                        (refine step_call _ (by rfl) 16 #[.int .i64 xt, .int .i64 (ks.length + 1)] (by go_simp) (HRt.out _) ?_; rintro e Yc ⟨rfl, rfl⟩; refine ⟨_, rfl, ?_⟩)
                        refine hK.out _ _ ?kt_9 (fun hHeld => ?qt_9)
                        case kt_9 => ((try dsimp only); exact HSof.out _ HX.out)
                        case qt_9 =>
                          clear hK K
                          (try simp only [Act.put]); (try simp only [List.setIfInBounds_toArray])
                          refine wpAnyH_done (by kernel_rfl) ?_ _
                          show wpList _ _ _ _ _ _
                          clear hHeld
                          go_upto_if 32 with (fail)
                          rename World => X2
                          go_cut [8, 9] (fun s8 s9 wx => s8 = .string rl ∧ s9 = .int .i64 ra ∧ X2 = wx)
                          case first =>
                            by_cases hy0 : y = 0
                            · have hyb : (y == 0) = true := by rw [beq_iff_eq]; exact hy0
                              have HYL := Lib.hid (HRL.out.1 hy0)
                              clear hy0
                              go_wp2_with fail
                              go_meet
                              exact ⟨by rw [HYL.out.1], by rw [HYL.out.2], rfl⟩
                            · have hyb : (y == 0) = false := by rw [beq_eq_false_iff_ne]; exact hy0
                              have HYL := Lib.hid (HRL.out.2 hy0)
                              clear hy0
                              go_wp2_with fail
                              go_meet
                              exact ⟨by rw [HYL.out.1], by rw [HYL.out.2], rfl⟩
                          case rest =>
                            obtain ⟨rfl, rfl, rfl⟩ := hcut
                            have m0 := (HX.out.m.cell 0).trans (show _ = some (.int .i64 next) from rfl)
                            have m1 := (HX.out.m.cell 1).trans (show _ = some (.slice A n c) from rfl)
                            have a0 := (HX.out.a.cell 0).trans (show _ = some (.int .i64 kd) from rfl)
                            have HO := Lib.hid (HX.out.more next A n c)
                            go_upto_region 7 with (fail)
                            generalize X2.alloc (.cells #[.int .i64 next, .slice A n c] 26) = X3 at HO ⊢
                            generalize X2.heap.size = go at HO ⊢
                            clear m0 m1 a0
                            have m0 := (HO.out.d.m.cell 0).trans (show _ = some (.int .i64 next) from rfl)
                            have m1 := (HO.out.d.m.cell 1).trans (show _ = some (.slice A n c) from rfl)
                            have a0 := (HO.out.d.a.cell 0).trans (show _ = some (.int .i64 kd) from rfl)
                            have a4 := (HO.out.d.a.cell 4).trans (show _ = some (.string wd) from rfl)
                            have a5 := (HO.out.d.a.cell 5).trans (show _ = some (.string tx) from rfl)
                            have o0 := (HO.out.out.cell 0).trans (show _ = some (.int .i64 next) from rfl)
                            have o1 := (HO.out.out.cell 1).trans (show _ = some (.slice A n c) from rfl)
                            have o2 := HO.out.out.frozen 0
                            have o3 := HO.out.out.frozen 1
                            go_upto_region 20 with (first | (go_at_call 16; (with_reducible refine (HRk.out _).mono ?_); go_must (rintro e wk ⟨rfl, rfl⟩)) | (go_at_call 18; (with_reducible refine (HCa.out _ HO.out.d.bel).mono ?_); go_must (rintro e w5 ⟨i5, A5, n5, c5, l5, rfl, ho5, hl5, hm5, hb5⟩; replace ho5 := ho5.mono HO.out.d.bel.size; have hO5 := HO.out.after hb5; have hs5 := hO5.set Rx A5 n5 c5; have hq5 := (ho5.other hO5.out 0 (.int .i64 Rx)).other (hO5.out.set_ 0 _) 1 (.slice A5 n5 c5); have p0 := (hO5.out.cell 0).trans (show _ = some (.int .i64 next) from rfl); have p1 := (hO5.out.cell 1).trans (show _ = some (.slice A n c) from rfl); have p2 := hO5.out.frozen 0; have p3 := hO5.out.frozen 1; have HS5 := Lib.hid hs5; have HQ5 := Lib.hid hq5; have HL5 := Lib.hid hl5; have HM5 := Lib.hid hm5; clear ho5 hO5 hs5 hq5 hl5 hm5 hb5)))
                            generalize (w5.setCell ⟨go, 0, none⟩ (.int .i64 Rx)).setCell ⟨go, 1, none⟩ (.slice A5 n5 c5) = Y at HS5 HQ5 ⊢
                            clear m0 m1 a0 a4 a5 o0 o1 o2 o3 p0 p1 p2 p3 HO
                            have y0 := (HS5.out.out.cell 0).trans (show _ = some (.int .i64 Rx) from rfl)
                            have y1 := (HS5.out.out.cell 1).trans (show _ = some (.slice A5 n5 c5) from rfl)
                            have m0 := (HS5.out.d.m.cell 0).trans (show _ = some (.int .i64 next) from rfl)
                            have m1 := (HS5.out.d.m.cell 1).trans (show _ = some (.slice A n c) from rfl)
                            have r0 : Y.cell? ⟨w.heap.size + 1 + 1, 0, none⟩ = some (.int .i64 0) := (HS5.out.d.r.cell 0).trans rfl
                            have r1 : Y.cell? ⟨w.heap.size + 1 + 1, 1, none⟩ = some (.slice none 0 0) := (HS5.out.d.r.cell 1).trans rfl
                            have r2 : Y.frozen? ⟨w.heap.size + 1 + 1, 0, none⟩ = false := HS5.out.d.r.frozen 0
                            have r3 : Y.frozen? ⟨w.heap.size + 1 + 1, 1, none⟩ = false := HS5.out.d.r.frozen 1
                            by_cases he : Re = 0
                            · have heb : (Re != 0) = false := by rw [he]; rfl
                              have HE := Lib.hid he
                              clear he
                              go_wp2_with fail
                              (try rw [Exit.noGoto_ret])
                              (try simp only [Exit.inBlock, Exit.then])
                              refine bodyPost_ret (v := .tuple #[.agg #[.int .i64 Rx, .slice A5 n5 c5], .int .i64 Re]) ?hr rfl ?_
                              case hr =>
                                simp only [results, hres]
                                go_simp
                              rw [HAct.out]
                              exact ⟨Rx, A5, n5, c5, rfl, (HS5.out.d.bel.setCell (p := ⟨w.heap.size + 1 + 1, 0, none⟩) (by simp; omega) _).setCell (p := ⟨w.heap.size + 1 + 1, 1, none⟩) (by simp; omega) _, fun h => absurd HE.out h, fun _ => ⟨rfl, l5, (HQ5.out.other HS5.out.d.r 0 _).other (HS5.out.d.r.set_ 0 _) 1 _, HL5.out, HM5.out⟩⟩
                            · have heb : (Re != 0) = true := by rw [bne_iff_ne]; exact he
                              have HE := Lib.hid he
                              clear he
                              go_wp2_with fail
                              (try rw [Exit.noGoto_ret])
                              (try simp only [Exit.inBlock, Exit.then])
                              refine bodyPost_ret (v := .tuple #[.agg #[.int .i64 next, .slice A n c], .int .i64 Re]) ?hr rfl ?_
                              case hr =>
                                simp only [results, hres]
                                go_simp
                              rw [HAct.out]
                              exact ⟨next, A, n, c, rfl, (HS5.out.d.bel.setCell (p := ⟨w.heap.size + 1 + 1, 0, none⟩) (by simp; omega) _).setCell (p := ⟨w.heap.size + 1 + 1, 1, none⟩) (by simp; omega) _, fun _ => ⟨rfl, rfl, rfl, rfl⟩, fun h => absurd h HE.out⟩
                      case mt_9 =>
                        exact AllReadyH.nil
              case mt_6 =>
                exact AllReadyH.nil
set_option maxRecDepth 20000 in
set_option maxHeartbeats 3200000 in
theorem done_k2 (w : World) (hi : Nat) (next : Int) (A : Option Addr) (n c : Nat) (nds : List Nd) (kd xa xb xt : Int) (wd tx : ByteArray) (h : NodesIn w 0 hi A n c nds) (hh : hi ≤ w.heap.size) (hsw : wd.size ≤ maxLen) (hst : tx.size ≤ maxLen) (hf : ∀ nd ∈ nds, Fits 1 nd) (hk : restV kd 7 = 2) :
    Calls Tryz.prog 9 #[.agg #[.int .i64 next, .slice A n c], .agg #[.int .i64 kd, .int .i64 xa, .int .i64 xb, .int .i64 xt, .string wd, .string tx]] w (DonePost w next A n c (actR next nds ⟨kd, xa, xb, xt, wd, tx⟩)) := by
  have hres : Tryz.f9.results = #[.cell 4 26, .tmp 5] := by kernel_rfl
  have hc := h.2.2.1
  have hnc := h.2.1
  have HD0 := Lib.hid (DB.start w next A n c kd xa xb xt wd tx)
  obtain ⟨id, hid⟩ : ∃ id, pickV next nds xa = id := ⟨_, rfl⟩
  obtain ⟨y, hy⟩ : ∃ y, pickV next nds xb = y := ⟨_, rfl⟩
  obtain ⟨ks, hks⟩ : ∃ ks, kidsR next nds y wd = ks := ⟨_, rfl⟩
  have hkl : ks.length ≤ 4096 := by rw [← hks]; exact kidsR_len
  obtain ⟨rl, hrl⟩ : ∃ rl, plR next nds xb wd = rl := ⟨_, rfl⟩
  obtain ⟨ra, hra⟩ : ∃ ra, plA next nds xb xt wd = ra := ⟨_, rfl⟩
  have hrs : rl.size ≤ maxLen := by
    rw [← hrl]
    unfold plR
    split
    · decide
    · exact hsw
  obtain ⟨R, hR⟩ : ∃ R, resR next (moveE next nds id y rl ra) (moveL next nds id y rl ra) = R := ⟨_, rfl⟩
  have HAct : Hid (actR next nds ⟨kd, xa, xb, xt, wd, tx⟩ = R) := Lib.hid (by
    unfold actR actP
    simp only [hk, hid, hy, hrl, hra]
    exact hR)
  have HPa : Hid (∀ X, Below w.heap.size w X → ∀ z, Calls Tryz.prog 15 #[.agg #[.int .i64 next, .slice A n c], .int .i64 z] X (Ret X (.int .i64 (pickV next nds z)))) := Lib.hid fun X hX z => pick_any X hi next z A n c nds (h.below (hX.mono hh)) (Nat.le_trans hh hX.size)
  have HKi : Hid (∀ X, Below w.heap.size w X → Calls Tryz.prog 17 #[.agg #[.int .i64 next, .slice A n c], .int .i64 y, .string wd] X (ListR X ks)) := Lib.hid fun X hX => hks ▸ kidsQ_any X hi next y wd A n c nds (h.below (hX.mono hh)) (Nat.le_trans hh hX.size)
  obtain ⟨rr, hrr⟩ : ∃ rr, restV xt (ks.length + 1) = rr := ⟨_, rfl⟩
  have HRt : Hid (∀ X, Calls Tryz.prog 16 #[.int .i64 xt, .int .i64 (ks.length + 1)] X fun e w' => e = .returned (.int .i64 rr) ∧ X = w') := Lib.hid fun X => by
    have := rest_any X xt (ks.length + 1) (by omega) (by omega)
    rw [hrr] at this
    exact this
  have HRk : Hid (∀ X, Calls Tryz.prog 16 #[.int .i64 kd, .int .i64 7] X fun e w' => e = .returned (.int .i64 2) ∧ X = w') := Lib.hid fun X => by
    have := rest_any X kd 7 (by omega) (by omega)
    rw [hk] at this
    exact this
  have HRL : Hid ((y = 0 → rl = ⟨#[]⟩ ∧ ra = 0) ∧ (y ≠ 0 → rl = wd ∧ ra = rr)) := Lib.hid (by
    rw [← hrl, ← hra]
    unfold plR plA
    rw [hy, hks, hrr]
    exact ⟨fun h => by rw [if_pos h, if_pos h]; exact ⟨rfl, rfl⟩, fun h => by rw [if_neg h, if_neg h]; exact ⟨rfl, rfl⟩⟩)
  have HCa : Hid (∀ X, Below w.heap.size w X → Calls Tryz.prog 21 #[.agg #[.int .i64 next, .slice A n c], .int .i64 id, .int .i64 y, .string rl, .int .i64 ra] X (TwoOwn X R)) := Lib.hid fun X hX => (move_any X hi next id y ra rl A n c nds (h.below (hX.mono hh)) (Nat.le_trans hh hX.size) hrs hf).mono fun e w' he => hR ▸ two_of he
  have hPid : Hid (pickV next nds xa = id) := Lib.hid hid
  have hPy : Hid (pickV next nds xb = y) := Lib.hid hy
  have HSof : Hid (∀ X, DB w next A n c kd xa xb xt wd tx X → X.cell? ⟨w.heap.size, 0, none⟩ = some (.int .i64 next) ∧ X.cell? ⟨w.heap.size, 1, none⟩ = some (.slice A n c) ∧ X.cell? ⟨w.heap.size + 1, 3, none⟩ = some (.int .i64 xt)) := Lib.hid fun X hX => ⟨(hX.m.cell 0).trans rfl, (hX.m.cell 1).trans rfl, (hX.a.cell 3).trans rfl⟩
  have hkw : IntKind.i64.wrap ((ks.length : Int) + 1) = (ks.length : Int) + 1 := IntWalk.i64_in _ (by omega)
  obtain ⟨Rx, Re, Rn⟩ := R
  clear h hh hf hR hid hy hks hrr hrl hra hrs hsw hst hk hkl hc hnc
  go_enter Tryz.func9, Tryz.ntmps9
  go_upto_region 1 with (fail)
  generalize ((w.alloc (.cells #[.int .i64 next, .slice A n c] 26)).alloc (.cells #[.int .i64 kd, .int .i64 xa, .int .i64 xb, .int .i64 xt, .string wd, .string tx] 32)).alloc (.cells #[.int .i64 0, .slice none 0 0] 26) = X0 at HD0 ⊢
  have q0 := cell_regrown ((HD0.out.m.cell 0).trans (show _ = some (.int .i64 next) from rfl))
  have q1 := cell_regrown ((HD0.out.m.cell 1).trans (show _ = some (.slice A n c) from rfl))
  have q2 := cell_regrown ((HD0.out.a.cell 1).trans (show _ = some (.int .i64 xa) from rfl))
  have q3 := cell_regrown ((HD0.out.a.cell 2).trans (show _ = some (.int .i64 xb) from rfl))
  have HPa1 : Hid (∀ d os, Calls Tryz.prog 15 #[.agg #[.int .i64 next, .slice A n c], .int .i64 xa] (grow (redrawn X0 d) os) (Ret (grow (redrawn X0 d) os) (.int .i64 id))) := Lib.hid fun d os => hPid.out ▸ HPa.out _ (HD0.out.bel.trans ((below_regrown X0 d os).mono HD0.out.bel.size)) xa
  have HPb1 : Hid (∀ d os, Calls Tryz.prog 15 #[.agg #[.int .i64 next, .slice A n c], .int .i64 xb] (grow (redrawn X0 d) os) (Ret (grow (redrawn X0 d) os) (.int .i64 y))) := Lib.hid fun d os => hPy.out ▸ HPa.out _ (HD0.out.bel.trans ((below_regrown X0 d os).mono HD0.out.bel.size)) xb
  refine wp_region_quiet_below (by kernel_rfl) (by kernel_rfl) ?_
  repeat (go_big_quiet_step ((first | (go_at_call_has 15 xa; exact regrown_ret (HPa1.out _ _)) | (go_at_call_has 15 xb; exact regrown_ret (HPb1.out _ _)))))
  refine wpQuiet_nil ?_
  intro _ hw'
  obtain ⟨⟨dq, osq⟩, hw''⟩ := hw'
  subst hw''
  have HX := Lib.hid (HD0.out.after (below_regrown _ dq osq))
  generalize grow (redrawn _ dq) osq = X1 at HX ⊢
  clear q0 q1 q2 q3 HD0
  have c4 := (HX.out.a.cell 4).trans (show _ = some (.string wd) from rfl)
  go_upto_region 3 with (fail)
  clear c4
  replace HX := Lib.hid (HX.out.after (below_drew1 _))
  refine wp_region_held_tail 9 (fun w' => w'.cell? ⟨w.heap.size, 0, none⟩ = some (.int .i64 next) ∧ w'.cell? ⟨w.heap.size, 1, none⟩ = some (.slice A n c) ∧ w'.cell? ⟨w.heap.size + 1, 3, none⟩ = some (.int .i64 xt)) (by kernel_rfl) (by kernel_rfl) ?hSt (fun hHeld => ?qt0)
  case hSt => exact HSof.out _ HX.out
  case qt0 =>
    generalize X1.drew = wz at HX hHeld ⊢
    simp only [List.take_succ_cons, List.take_zero, List.drop_succ_cons, List.drop_zero]
    refine wpAnyH_take (i := 0) (v := (.pointer (some ⟨w.heap.size + 1, 3, none⟩))) rfl (by kernel_rfl) (by kernel_rfl) (by kernel_rfl) (fun _ _ _ h => h) (Or.inl ⟨by rfl, ?yt_1⟩) (by assumption) ?qt_1
    case yt_1 => (intro w hSw; (try dsimp only at hSw); go_simp)
    case qt_1 =>
      (try simp only [Act.put]); (try simp only [List.setIfInBounds_toArray])
      refine wpAnyH_take (i := 1) (v := (.int .i64 xt)) rfl (by kernel_rfl) (by kernel_rfl) (by kernel_rfl) (fun _ _ _ h => h) (Or.inl ⟨by rfl, ?yt_2⟩) (by assumption) ?qt_2
      case yt_2 => (intro w hSw; (try dsimp only at hSw); go_simp)
      case qt_2 =>
        (try simp only [Act.put]); (try simp only [List.setIfInBounds_toArray])
        refine wpAnyH_take (i := 2) (v := (.agg #[.int .i64 next, .slice A n c])) rfl (by kernel_rfl) (by kernel_rfl) (by kernel_rfl) (fun _ _ _ h => h) (Or.inl ⟨by rfl, ?yt_3⟩) (by assumption) ?qt_3
        case yt_3 => (intro w hSw; (try dsimp only at hSw); go_simp)
        case qt_3 =>
          (try simp only [Act.put]); (try simp only [List.setIfInBounds_toArray])
          refine wpAnyH_take (i := 3) (v := (.int .i64 y)) rfl (by kernel_rfl) (by kernel_rfl) (by kernel_rfl) (fun _ _ _ h => h) (Or.inl ⟨by rfl, ?yt_4⟩) (by assumption) ?qt_4
          case yt_4 => (intro w hSw; (try dsimp only at hSw); go_simp)
          case qt_4 =>
            (try simp only [Act.put]); (try simp only [List.setIfInBounds_toArray])
            refine wpAnyH_take (i := 4) (v := (.string wd)) rfl (by kernel_rfl) (by kernel_rfl) (by kernel_rfl) (fun _ _ _ h => h) (Or.inl ⟨by rfl, ?yt_5⟩) (by assumption) ?qt_5
            case yt_5 => (intro w hSw; (try dsimp only at hSw); go_simp)
            case qt_5 =>
              (try simp only [Act.put]); (try simp only [List.setIfInBounds_toArray])
              refine wpAnyH_ready (rs := [5]) (by kernel_rfl) (by simp) ?_
              refine AllReadyH.cons rfl (fun K hK => ?st_6) ?mt_6
              case st_6 =>
                (refine step_call _ (by rfl) 17 #[.agg #[.int .i64 next, .slice A n c], .int .i64 y, .string wd] (by go_simp) (HKi.out _ HX.out.bel) ?_; rintro e Yb ⟨v, rfl, hvk, hbb⟩; obtain ⟨Ak, ck, hke⟩ := own_form hvk; subst hke; refine ⟨_, rfl, ?_⟩; replace HX := Lib.hid (HX.out.after hbb); clear hbb hvk)
                refine hK.out _ _ ?kt_6 (fun hHeld => ?qt_6)
                case kt_6 => ((try dsimp only); exact HSof.out _ HX.out)
                case qt_6 =>
                  clear hK K
                  (try simp only [Act.put]); (try simp only [List.setIfInBounds_toArray])
                  refine wpAnyH_take (i := 6) (v := (.int .i64 ks.length)) rfl (by kernel_rfl) (by kernel_rfl) (by kernel_rfl) (fun _ _ _ h => h) (Or.inl ⟨by rfl, ?yt_7⟩) (by assumption) ?qt_7
                  case yt_7 => (intro w hSw; (try dsimp only at hSw); go_simp)
                  case qt_7 =>
                    (try simp only [Act.put]); (try simp only [List.setIfInBounds_toArray])
                    refine wpAnyH_take (i := 7) (v := (.int .i64 (ks.length + 1))) rfl (by kernel_rfl) (by kernel_rfl) (by kernel_rfl) (fun _ _ _ h => h) (Or.inl ⟨by rfl, ?yt_8⟩) (by assumption) ?qt_8
                    case yt_8 => (intro w hSw; (try dsimp only at hSw); go_simp)
                    case qt_8 =>
                      (try simp only [Act.put]); (try simp only [List.setIfInBounds_toArray])
                      refine wpAnyH_ready (rs := [8]) (by kernel_rfl) (by simp) ?_
                      refine AllReadyH.cons rfl (fun K hK => ?st_9) ?mt_9
                      case st_9 =>
                        (refine step_call _ (by rfl) 16 #[.int .i64 xt, .int .i64 (ks.length + 1)] (by go_simp) (HRt.out _) ?_; rintro e Yc ⟨rfl, rfl⟩; refine ⟨_, rfl, ?_⟩)
                        refine hK.out _ _ ?kt_9 (fun hHeld => ?qt_9)
                        case kt_9 => ((try dsimp only); exact HSof.out _ HX.out)
                        case qt_9 =>
                          clear hK K
                          (try simp only [Act.put]); (try simp only [List.setIfInBounds_toArray])
                          refine wpAnyH_done (by kernel_rfl) ?_ _
                          show wpList _ _ _ _ _ _
                          clear hHeld
                          go_upto_if 32 with (fail)
                          rename World => X2
                          go_cut [8, 9] (fun s8 s9 wx => s8 = .string rl ∧ s9 = .int .i64 ra ∧ X2 = wx)
                          case first =>
                            by_cases hy0 : y = 0
                            · have hyb : (y == 0) = true := by rw [beq_iff_eq]; exact hy0
                              have HYL := Lib.hid (HRL.out.1 hy0)
                              clear hy0
                              go_wp2_with fail
                              go_meet
                              exact ⟨by rw [HYL.out.1], by rw [HYL.out.2], rfl⟩
                            · have hyb : (y == 0) = false := by rw [beq_eq_false_iff_ne]; exact hy0
                              have HYL := Lib.hid (HRL.out.2 hy0)
                              clear hy0
                              go_wp2_with fail
                              go_meet
                              exact ⟨by rw [HYL.out.1], by rw [HYL.out.2], rfl⟩
                          case rest =>
                            obtain ⟨rfl, rfl, rfl⟩ := hcut
                            have m0 := (HX.out.m.cell 0).trans (show _ = some (.int .i64 next) from rfl)
                            have m1 := (HX.out.m.cell 1).trans (show _ = some (.slice A n c) from rfl)
                            have a0 := (HX.out.a.cell 0).trans (show _ = some (.int .i64 kd) from rfl)
                            have HO := Lib.hid (HX.out.more next A n c)
                            go_upto_region 7 with (fail)
                            generalize X2.alloc (.cells #[.int .i64 next, .slice A n c] 26) = X3 at HO ⊢
                            generalize X2.heap.size = go at HO ⊢
                            clear m0 m1 a0
                            have m0 := (HO.out.d.m.cell 0).trans (show _ = some (.int .i64 next) from rfl)
                            have m1 := (HO.out.d.m.cell 1).trans (show _ = some (.slice A n c) from rfl)
                            have a0 := (HO.out.d.a.cell 0).trans (show _ = some (.int .i64 kd) from rfl)
                            have a4 := (HO.out.d.a.cell 4).trans (show _ = some (.string wd) from rfl)
                            have a5 := (HO.out.d.a.cell 5).trans (show _ = some (.string tx) from rfl)
                            have o0 := (HO.out.out.cell 0).trans (show _ = some (.int .i64 next) from rfl)
                            have o1 := (HO.out.out.cell 1).trans (show _ = some (.slice A n c) from rfl)
                            have o2 := HO.out.out.frozen 0
                            have o3 := HO.out.out.frozen 1
                            go_upto_region 20 with (first | (go_at_call 16; (with_reducible refine (HRk.out _).mono ?_); go_must (rintro e wk ⟨rfl, rfl⟩)) | (go_at_call 21; (with_reducible refine (HCa.out _ HO.out.d.bel).mono ?_); go_must (rintro e w5 ⟨A5, n5, c5, l5, rfl, ho5, hl5, hm5, hb5⟩; replace ho5 := ho5.mono HO.out.d.bel.size; have hO5 := HO.out.after hb5; have hs5 := hO5.set Rx A5 n5 c5; have hq5 := (ho5.other hO5.out 0 (.int .i64 Rx)).other (hO5.out.set_ 0 _) 1 (.slice A5 n5 c5); have p0 := (hO5.out.cell 0).trans (show _ = some (.int .i64 next) from rfl); have p1 := (hO5.out.cell 1).trans (show _ = some (.slice A n c) from rfl); have p2 := hO5.out.frozen 0; have p3 := hO5.out.frozen 1; have HS5 := Lib.hid hs5; have HQ5 := Lib.hid hq5; have HL5 := Lib.hid hl5; have HM5 := Lib.hid hm5; clear ho5 hO5 hs5 hq5 hl5 hm5 hb5)))
                            generalize (w5.setCell ⟨go, 0, none⟩ (.int .i64 Rx)).setCell ⟨go, 1, none⟩ (.slice A5 n5 c5) = Y at HS5 HQ5 ⊢
                            clear m0 m1 a0 a4 a5 o0 o1 o2 o3 p0 p1 p2 p3 HO
                            have y0 := (HS5.out.out.cell 0).trans (show _ = some (.int .i64 Rx) from rfl)
                            have y1 := (HS5.out.out.cell 1).trans (show _ = some (.slice A5 n5 c5) from rfl)
                            have m0 := (HS5.out.d.m.cell 0).trans (show _ = some (.int .i64 next) from rfl)
                            have m1 := (HS5.out.d.m.cell 1).trans (show _ = some (.slice A n c) from rfl)
                            have r0 : Y.cell? ⟨w.heap.size + 1 + 1, 0, none⟩ = some (.int .i64 0) := (HS5.out.d.r.cell 0).trans rfl
                            have r1 : Y.cell? ⟨w.heap.size + 1 + 1, 1, none⟩ = some (.slice none 0 0) := (HS5.out.d.r.cell 1).trans rfl
                            have r2 : Y.frozen? ⟨w.heap.size + 1 + 1, 0, none⟩ = false := HS5.out.d.r.frozen 0
                            have r3 : Y.frozen? ⟨w.heap.size + 1 + 1, 1, none⟩ = false := HS5.out.d.r.frozen 1
                            by_cases he : Re = 0
                            · have heb : (Re != 0) = false := by rw [he]; rfl
                              have HE := Lib.hid he
                              clear he
                              go_wp2_with fail
                              (try rw [Exit.noGoto_ret])
                              (try simp only [Exit.inBlock, Exit.then])
                              refine bodyPost_ret (v := .tuple #[.agg #[.int .i64 Rx, .slice A5 n5 c5], .int .i64 Re]) ?hr rfl ?_
                              case hr =>
                                simp only [results, hres]
                                go_simp
                              rw [HAct.out]
                              exact ⟨Rx, A5, n5, c5, rfl, (HS5.out.d.bel.setCell (p := ⟨w.heap.size + 1 + 1, 0, none⟩) (by simp; omega) _).setCell (p := ⟨w.heap.size + 1 + 1, 1, none⟩) (by simp; omega) _, fun h => absurd HE.out h, fun _ => ⟨rfl, l5, (HQ5.out.other HS5.out.d.r 0 _).other (HS5.out.d.r.set_ 0 _) 1 _, HL5.out, HM5.out⟩⟩
                            · have heb : (Re != 0) = true := by rw [bne_iff_ne]; exact he
                              have HE := Lib.hid he
                              clear he
                              go_wp2_with fail
                              (try rw [Exit.noGoto_ret])
                              (try simp only [Exit.inBlock, Exit.then])
                              refine bodyPost_ret (v := .tuple #[.agg #[.int .i64 next, .slice A n c], .int .i64 Re]) ?hr rfl ?_
                              case hr =>
                                simp only [results, hres]
                                go_simp
                              rw [HAct.out]
                              exact ⟨next, A, n, c, rfl, (HS5.out.d.bel.setCell (p := ⟨w.heap.size + 1 + 1, 0, none⟩) (by simp; omega) _).setCell (p := ⟨w.heap.size + 1 + 1, 1, none⟩) (by simp; omega) _, fun _ => ⟨rfl, rfl, rfl, rfl⟩, fun h => absurd h HE.out⟩
                      case mt_9 =>
                        exact AllReadyH.nil
              case mt_6 =>
                exact AllReadyH.nil
set_option maxRecDepth 20000 in
set_option maxHeartbeats 3200000 in
theorem done_k3 (w : World) (hi : Nat) (next : Int) (A : Option Addr) (n c : Nat) (nds : List Nd) (kd xa xb xt : Int) (wd tx : ByteArray) (h : NodesIn w 0 hi A n c nds) (hh : hi ≤ w.heap.size) (hsw : wd.size ≤ maxLen) (hst : tx.size ≤ maxLen) (hf : ∀ nd ∈ nds, Fits 1 nd) (hk : restV kd 7 = 3) :
    Calls Tryz.prog 9 #[.agg #[.int .i64 next, .slice A n c], .agg #[.int .i64 kd, .int .i64 xa, .int .i64 xb, .int .i64 xt, .string wd, .string tx]] w (DonePost w next A n c (actR next nds ⟨kd, xa, xb, xt, wd, tx⟩)) := by
  have hres : Tryz.f9.results = #[.cell 4 26, .tmp 5] := by kernel_rfl
  have hc := h.2.2.1
  have hnc := h.2.1
  have HD0 := Lib.hid (DB.start w next A n c kd xa xb xt wd tx)
  obtain ⟨id, hid⟩ : ∃ id, pickV next nds xa = id := ⟨_, rfl⟩
  obtain ⟨y, hy⟩ : ∃ y, pickV next nds xb = y := ⟨_, rfl⟩
  obtain ⟨ks, hks⟩ : ∃ ks, kidsR next nds y wd = ks := ⟨_, rfl⟩
  have hkl : ks.length ≤ 4096 := by rw [← hks]; exact kidsR_len
  obtain ⟨rl, hrl⟩ : ∃ rl, plR next nds xb wd = rl := ⟨_, rfl⟩
  obtain ⟨ra, hra⟩ : ∃ ra, plA next nds xb xt wd = ra := ⟨_, rfl⟩
  have hrs : rl.size ≤ maxLen := by
    rw [← hrl]
    unfold plR
    split
    · decide
    · exact hsw
  obtain ⟨R, hR⟩ : ∃ R, resR (next + (preI nds id).length) (copyE next nds id y rl ra) (copyL next nds id y rl ra) = R := ⟨_, rfl⟩
  have HAct : Hid (actR next nds ⟨kd, xa, xb, xt, wd, tx⟩ = R) := Lib.hid (by
    unfold actR actP
    simp only [hk, hid, hy, hrl, hra]
    exact hR)
  have HPa : Hid (∀ X, Below w.heap.size w X → ∀ z, Calls Tryz.prog 15 #[.agg #[.int .i64 next, .slice A n c], .int .i64 z] X (Ret X (.int .i64 (pickV next nds z)))) := Lib.hid fun X hX z => pick_any X hi next z A n c nds (h.below (hX.mono hh)) (Nat.le_trans hh hX.size)
  have HKi : Hid (∀ X, Below w.heap.size w X → Calls Tryz.prog 17 #[.agg #[.int .i64 next, .slice A n c], .int .i64 y, .string wd] X (ListR X ks)) := Lib.hid fun X hX => hks ▸ kidsQ_any X hi next y wd A n c nds (h.below (hX.mono hh)) (Nat.le_trans hh hX.size)
  obtain ⟨rr, hrr⟩ : ∃ rr, restV xt (ks.length + 1) = rr := ⟨_, rfl⟩
  have HRt : Hid (∀ X, Calls Tryz.prog 16 #[.int .i64 xt, .int .i64 (ks.length + 1)] X fun e w' => e = .returned (.int .i64 rr) ∧ X = w') := Lib.hid fun X => by
    have := rest_any X xt (ks.length + 1) (by omega) (by omega)
    rw [hrr] at this
    exact this
  have HRk : Hid (∀ X, Calls Tryz.prog 16 #[.int .i64 kd, .int .i64 7] X fun e w' => e = .returned (.int .i64 3) ∧ X = w') := Lib.hid fun X => by
    have := rest_any X kd 7 (by omega) (by omega)
    rw [hk] at this
    exact this
  have HRL : Hid ((y = 0 → rl = ⟨#[]⟩ ∧ ra = 0) ∧ (y ≠ 0 → rl = wd ∧ ra = rr)) := Lib.hid (by
    rw [← hrl, ← hra]
    unfold plR plA
    rw [hy, hks, hrr]
    exact ⟨fun h => by rw [if_pos h, if_pos h]; exact ⟨rfl, rfl⟩, fun h => by rw [if_neg h, if_neg h]; exact ⟨rfl, rfl⟩⟩)
  have HCa : Hid (∀ X, Below w.heap.size w X → Calls Tryz.prog 24 #[.agg #[.int .i64 next, .slice A n c], .int .i64 id, .int .i64 y, .string rl, .int .i64 ra] X (ThreeOwn X R)) := Lib.hid fun X hX => (copy_any X hi next id y ra rl A n c nds (h.below (hX.mono hh)) (Nat.le_trans hh hX.size) hrs hf).mono fun e w' he => hR ▸ three_of_copy he
  have hPid : Hid (pickV next nds xa = id) := Lib.hid hid
  have hPy : Hid (pickV next nds xb = y) := Lib.hid hy
  have HSof : Hid (∀ X, DB w next A n c kd xa xb xt wd tx X → X.cell? ⟨w.heap.size, 0, none⟩ = some (.int .i64 next) ∧ X.cell? ⟨w.heap.size, 1, none⟩ = some (.slice A n c) ∧ X.cell? ⟨w.heap.size + 1, 3, none⟩ = some (.int .i64 xt)) := Lib.hid fun X hX => ⟨(hX.m.cell 0).trans rfl, (hX.m.cell 1).trans rfl, (hX.a.cell 3).trans rfl⟩
  have hkw : IntKind.i64.wrap ((ks.length : Int) + 1) = (ks.length : Int) + 1 := IntWalk.i64_in _ (by omega)
  obtain ⟨Rx, Re, Rn⟩ := R
  clear h hh hf hR hid hy hks hrr hrl hra hrs hsw hst hk hkl hc hnc
  go_enter Tryz.func9, Tryz.ntmps9
  go_upto_region 1 with (fail)
  generalize ((w.alloc (.cells #[.int .i64 next, .slice A n c] 26)).alloc (.cells #[.int .i64 kd, .int .i64 xa, .int .i64 xb, .int .i64 xt, .string wd, .string tx] 32)).alloc (.cells #[.int .i64 0, .slice none 0 0] 26) = X0 at HD0 ⊢
  have q0 := cell_regrown ((HD0.out.m.cell 0).trans (show _ = some (.int .i64 next) from rfl))
  have q1 := cell_regrown ((HD0.out.m.cell 1).trans (show _ = some (.slice A n c) from rfl))
  have q2 := cell_regrown ((HD0.out.a.cell 1).trans (show _ = some (.int .i64 xa) from rfl))
  have q3 := cell_regrown ((HD0.out.a.cell 2).trans (show _ = some (.int .i64 xb) from rfl))
  have HPa1 : Hid (∀ d os, Calls Tryz.prog 15 #[.agg #[.int .i64 next, .slice A n c], .int .i64 xa] (grow (redrawn X0 d) os) (Ret (grow (redrawn X0 d) os) (.int .i64 id))) := Lib.hid fun d os => hPid.out ▸ HPa.out _ (HD0.out.bel.trans ((below_regrown X0 d os).mono HD0.out.bel.size)) xa
  have HPb1 : Hid (∀ d os, Calls Tryz.prog 15 #[.agg #[.int .i64 next, .slice A n c], .int .i64 xb] (grow (redrawn X0 d) os) (Ret (grow (redrawn X0 d) os) (.int .i64 y))) := Lib.hid fun d os => hPy.out ▸ HPa.out _ (HD0.out.bel.trans ((below_regrown X0 d os).mono HD0.out.bel.size)) xb
  refine wp_region_quiet_below (by kernel_rfl) (by kernel_rfl) ?_
  repeat (go_big_quiet_step ((first | (go_at_call_has 15 xa; exact regrown_ret (HPa1.out _ _)) | (go_at_call_has 15 xb; exact regrown_ret (HPb1.out _ _)))))
  refine wpQuiet_nil ?_
  intro _ hw'
  obtain ⟨⟨dq, osq⟩, hw''⟩ := hw'
  subst hw''
  have HX := Lib.hid (HD0.out.after (below_regrown _ dq osq))
  generalize grow (redrawn _ dq) osq = X1 at HX ⊢
  clear q0 q1 q2 q3 HD0
  have c4 := (HX.out.a.cell 4).trans (show _ = some (.string wd) from rfl)
  go_upto_region 3 with (fail)
  clear c4
  replace HX := Lib.hid (HX.out.after (below_drew1 _))
  refine wp_region_held_tail 9 (fun w' => w'.cell? ⟨w.heap.size, 0, none⟩ = some (.int .i64 next) ∧ w'.cell? ⟨w.heap.size, 1, none⟩ = some (.slice A n c) ∧ w'.cell? ⟨w.heap.size + 1, 3, none⟩ = some (.int .i64 xt)) (by kernel_rfl) (by kernel_rfl) ?hSt (fun hHeld => ?qt0)
  case hSt => exact HSof.out _ HX.out
  case qt0 =>
    generalize X1.drew = wz at HX hHeld ⊢
    simp only [List.take_succ_cons, List.take_zero, List.drop_succ_cons, List.drop_zero]
    refine wpAnyH_take (i := 0) (v := (.pointer (some ⟨w.heap.size + 1, 3, none⟩))) rfl (by kernel_rfl) (by kernel_rfl) (by kernel_rfl) (fun _ _ _ h => h) (Or.inl ⟨by rfl, ?yt_1⟩) (by assumption) ?qt_1
    case yt_1 => (intro w hSw; (try dsimp only at hSw); go_simp)
    case qt_1 =>
      (try simp only [Act.put]); (try simp only [List.setIfInBounds_toArray])
      refine wpAnyH_take (i := 1) (v := (.int .i64 xt)) rfl (by kernel_rfl) (by kernel_rfl) (by kernel_rfl) (fun _ _ _ h => h) (Or.inl ⟨by rfl, ?yt_2⟩) (by assumption) ?qt_2
      case yt_2 => (intro w hSw; (try dsimp only at hSw); go_simp)
      case qt_2 =>
        (try simp only [Act.put]); (try simp only [List.setIfInBounds_toArray])
        refine wpAnyH_take (i := 2) (v := (.agg #[.int .i64 next, .slice A n c])) rfl (by kernel_rfl) (by kernel_rfl) (by kernel_rfl) (fun _ _ _ h => h) (Or.inl ⟨by rfl, ?yt_3⟩) (by assumption) ?qt_3
        case yt_3 => (intro w hSw; (try dsimp only at hSw); go_simp)
        case qt_3 =>
          (try simp only [Act.put]); (try simp only [List.setIfInBounds_toArray])
          refine wpAnyH_take (i := 3) (v := (.int .i64 y)) rfl (by kernel_rfl) (by kernel_rfl) (by kernel_rfl) (fun _ _ _ h => h) (Or.inl ⟨by rfl, ?yt_4⟩) (by assumption) ?qt_4
          case yt_4 => (intro w hSw; (try dsimp only at hSw); go_simp)
          case qt_4 =>
            (try simp only [Act.put]); (try simp only [List.setIfInBounds_toArray])
            refine wpAnyH_take (i := 4) (v := (.string wd)) rfl (by kernel_rfl) (by kernel_rfl) (by kernel_rfl) (fun _ _ _ h => h) (Or.inl ⟨by rfl, ?yt_5⟩) (by assumption) ?qt_5
            case yt_5 => (intro w hSw; (try dsimp only at hSw); go_simp)
            case qt_5 =>
              (try simp only [Act.put]); (try simp only [List.setIfInBounds_toArray])
              refine wpAnyH_ready (rs := [5]) (by kernel_rfl) (by simp) ?_
              refine AllReadyH.cons rfl (fun K hK => ?st_6) ?mt_6
              case st_6 =>
                (refine step_call _ (by rfl) 17 #[.agg #[.int .i64 next, .slice A n c], .int .i64 y, .string wd] (by go_simp) (HKi.out _ HX.out.bel) ?_; rintro e Yb ⟨v, rfl, hvk, hbb⟩; obtain ⟨Ak, ck, hke⟩ := own_form hvk; subst hke; refine ⟨_, rfl, ?_⟩; replace HX := Lib.hid (HX.out.after hbb); clear hbb hvk)
                refine hK.out _ _ ?kt_6 (fun hHeld => ?qt_6)
                case kt_6 => ((try dsimp only); exact HSof.out _ HX.out)
                case qt_6 =>
                  clear hK K
                  (try simp only [Act.put]); (try simp only [List.setIfInBounds_toArray])
                  refine wpAnyH_take (i := 6) (v := (.int .i64 ks.length)) rfl (by kernel_rfl) (by kernel_rfl) (by kernel_rfl) (fun _ _ _ h => h) (Or.inl ⟨by rfl, ?yt_7⟩) (by assumption) ?qt_7
                  case yt_7 => (intro w hSw; (try dsimp only at hSw); go_simp)
                  case qt_7 =>
                    (try simp only [Act.put]); (try simp only [List.setIfInBounds_toArray])
                    refine wpAnyH_take (i := 7) (v := (.int .i64 (ks.length + 1))) rfl (by kernel_rfl) (by kernel_rfl) (by kernel_rfl) (fun _ _ _ h => h) (Or.inl ⟨by rfl, ?yt_8⟩) (by assumption) ?qt_8
                    case yt_8 => (intro w hSw; (try dsimp only at hSw); go_simp)
                    case qt_8 =>
                      (try simp only [Act.put]); (try simp only [List.setIfInBounds_toArray])
                      refine wpAnyH_ready (rs := [8]) (by kernel_rfl) (by simp) ?_
                      refine AllReadyH.cons rfl (fun K hK => ?st_9) ?mt_9
                      case st_9 =>
                        (refine step_call _ (by rfl) 16 #[.int .i64 xt, .int .i64 (ks.length + 1)] (by go_simp) (HRt.out _) ?_; rintro e Yc ⟨rfl, rfl⟩; refine ⟨_, rfl, ?_⟩)
                        refine hK.out _ _ ?kt_9 (fun hHeld => ?qt_9)
                        case kt_9 => ((try dsimp only); exact HSof.out _ HX.out)
                        case qt_9 =>
                          clear hK K
                          (try simp only [Act.put]); (try simp only [List.setIfInBounds_toArray])
                          refine wpAnyH_done (by kernel_rfl) ?_ _
                          show wpList _ _ _ _ _ _
                          clear hHeld
                          go_upto_if 32 with (fail)
                          rename World => X2
                          go_cut [8, 9] (fun s8 s9 wx => s8 = .string rl ∧ s9 = .int .i64 ra ∧ X2 = wx)
                          case first =>
                            by_cases hy0 : y = 0
                            · have hyb : (y == 0) = true := by rw [beq_iff_eq]; exact hy0
                              have HYL := Lib.hid (HRL.out.1 hy0)
                              clear hy0
                              go_wp2_with fail
                              go_meet
                              exact ⟨by rw [HYL.out.1], by rw [HYL.out.2], rfl⟩
                            · have hyb : (y == 0) = false := by rw [beq_eq_false_iff_ne]; exact hy0
                              have HYL := Lib.hid (HRL.out.2 hy0)
                              clear hy0
                              go_wp2_with fail
                              go_meet
                              exact ⟨by rw [HYL.out.1], by rw [HYL.out.2], rfl⟩
                          case rest =>
                            obtain ⟨rfl, rfl, rfl⟩ := hcut
                            have m0 := (HX.out.m.cell 0).trans (show _ = some (.int .i64 next) from rfl)
                            have m1 := (HX.out.m.cell 1).trans (show _ = some (.slice A n c) from rfl)
                            have a0 := (HX.out.a.cell 0).trans (show _ = some (.int .i64 kd) from rfl)
                            have HO := Lib.hid (HX.out.more next A n c)
                            go_upto_region 7 with (fail)
                            generalize X2.alloc (.cells #[.int .i64 next, .slice A n c] 26) = X3 at HO ⊢
                            generalize X2.heap.size = go at HO ⊢
                            clear m0 m1 a0
                            have m0 := (HO.out.d.m.cell 0).trans (show _ = some (.int .i64 next) from rfl)
                            have m1 := (HO.out.d.m.cell 1).trans (show _ = some (.slice A n c) from rfl)
                            have a0 := (HO.out.d.a.cell 0).trans (show _ = some (.int .i64 kd) from rfl)
                            have a4 := (HO.out.d.a.cell 4).trans (show _ = some (.string wd) from rfl)
                            have a5 := (HO.out.d.a.cell 5).trans (show _ = some (.string tx) from rfl)
                            have o0 := (HO.out.out.cell 0).trans (show _ = some (.int .i64 next) from rfl)
                            have o1 := (HO.out.out.cell 1).trans (show _ = some (.slice A n c) from rfl)
                            have o2 := HO.out.out.frozen 0
                            have o3 := HO.out.out.frozen 1
                            go_upto_region 20 with (first | (go_at_call 16; (with_reducible refine (HRk.out _).mono ?_); go_must (rintro e wk ⟨rfl, rfl⟩)) | (go_at_call 24; (with_reducible refine (HCa.out _ HO.out.d.bel).mono ?_); go_must (rintro e w5 ⟨i5, A5, n5, c5, l5, rfl, ho5, hl5, hm5, hb5⟩; replace ho5 := ho5.mono HO.out.d.bel.size; have hO5 := HO.out.after hb5; have hs5 := hO5.set Rx A5 n5 c5; have hq5 := (ho5.other hO5.out 0 (.int .i64 Rx)).other (hO5.out.set_ 0 _) 1 (.slice A5 n5 c5); have p0 := (hO5.out.cell 0).trans (show _ = some (.int .i64 next) from rfl); have p1 := (hO5.out.cell 1).trans (show _ = some (.slice A n c) from rfl); have p2 := hO5.out.frozen 0; have p3 := hO5.out.frozen 1; have HS5 := Lib.hid hs5; have HQ5 := Lib.hid hq5; have HL5 := Lib.hid hl5; have HM5 := Lib.hid hm5; clear ho5 hO5 hs5 hq5 hl5 hm5 hb5)))
                            generalize (w5.setCell ⟨go, 0, none⟩ (.int .i64 Rx)).setCell ⟨go, 1, none⟩ (.slice A5 n5 c5) = Y at HS5 HQ5 ⊢
                            clear m0 m1 a0 a4 a5 o0 o1 o2 o3 p0 p1 p2 p3 HO
                            have y0 := (HS5.out.out.cell 0).trans (show _ = some (.int .i64 Rx) from rfl)
                            have y1 := (HS5.out.out.cell 1).trans (show _ = some (.slice A5 n5 c5) from rfl)
                            have m0 := (HS5.out.d.m.cell 0).trans (show _ = some (.int .i64 next) from rfl)
                            have m1 := (HS5.out.d.m.cell 1).trans (show _ = some (.slice A n c) from rfl)
                            have r0 : Y.cell? ⟨w.heap.size + 1 + 1, 0, none⟩ = some (.int .i64 0) := (HS5.out.d.r.cell 0).trans rfl
                            have r1 : Y.cell? ⟨w.heap.size + 1 + 1, 1, none⟩ = some (.slice none 0 0) := (HS5.out.d.r.cell 1).trans rfl
                            have r2 : Y.frozen? ⟨w.heap.size + 1 + 1, 0, none⟩ = false := HS5.out.d.r.frozen 0
                            have r3 : Y.frozen? ⟨w.heap.size + 1 + 1, 1, none⟩ = false := HS5.out.d.r.frozen 1
                            by_cases he : Re = 0
                            · have heb : (Re != 0) = false := by rw [he]; rfl
                              have HE := Lib.hid he
                              clear he
                              go_wp2_with fail
                              (try rw [Exit.noGoto_ret])
                              (try simp only [Exit.inBlock, Exit.then])
                              refine bodyPost_ret (v := .tuple #[.agg #[.int .i64 Rx, .slice A5 n5 c5], .int .i64 Re]) ?hr rfl ?_
                              case hr =>
                                simp only [results, hres]
                                go_simp
                              rw [HAct.out]
                              exact ⟨Rx, A5, n5, c5, rfl, (HS5.out.d.bel.setCell (p := ⟨w.heap.size + 1 + 1, 0, none⟩) (by simp; omega) _).setCell (p := ⟨w.heap.size + 1 + 1, 1, none⟩) (by simp; omega) _, fun h => absurd HE.out h, fun _ => ⟨rfl, l5, (HQ5.out.other HS5.out.d.r 0 _).other (HS5.out.d.r.set_ 0 _) 1 _, HL5.out, HM5.out⟩⟩
                            · have heb : (Re != 0) = true := by rw [bne_iff_ne]; exact he
                              have HE := Lib.hid he
                              clear he
                              go_wp2_with fail
                              (try rw [Exit.noGoto_ret])
                              (try simp only [Exit.inBlock, Exit.then])
                              refine bodyPost_ret (v := .tuple #[.agg #[.int .i64 next, .slice A n c], .int .i64 Re]) ?hr rfl ?_
                              case hr =>
                                simp only [results, hres]
                                go_simp
                              rw [HAct.out]
                              exact ⟨next, A, n, c, rfl, (HS5.out.d.bel.setCell (p := ⟨w.heap.size + 1 + 1, 0, none⟩) (by simp; omega) _).setCell (p := ⟨w.heap.size + 1 + 1, 1, none⟩) (by simp; omega) _, fun _ => ⟨rfl, rfl, rfl, rfl⟩, fun h => absurd h HE.out⟩
                      case mt_9 =>
                        exact AllReadyH.nil
              case mt_6 =>
                exact AllReadyH.nil
set_option maxRecDepth 20000 in
set_option maxHeartbeats 3200000 in
theorem done_k4 (w : World) (hi : Nat) (next : Int) (A : Option Addr) (n c : Nat) (nds : List Nd) (kd xa xb xt : Int) (wd tx : ByteArray) (h : NodesIn w 0 hi A n c nds) (hh : hi ≤ w.heap.size) (hsw : wd.size ≤ maxLen) (hst : tx.size ≤ maxLen) (hf : ∀ nd ∈ nds, Fits 1 nd) (hk : restV kd 7 = 4) :
    Calls Tryz.prog 9 #[.agg #[.int .i64 next, .slice A n c], .agg #[.int .i64 kd, .int .i64 xa, .int .i64 xb, .int .i64 xt, .string wd, .string tx]] w (DonePost w next A n c (actR next nds ⟨kd, xa, xb, xt, wd, tx⟩)) := by
  have hres : Tryz.f9.results = #[.cell 4 26, .tmp 5] := by kernel_rfl
  have hc := h.2.2.1
  have hnc := h.2.1
  have HD0 := Lib.hid (DB.start w next A n c kd xa xb xt wd tx)
  obtain ⟨id, hid⟩ : ∃ id, pickV next nds xa = id := ⟨_, rfl⟩
  obtain ⟨y, hy⟩ : ∃ y, pickV next nds xb = y := ⟨_, rfl⟩
  obtain ⟨ks, hks⟩ : ∃ ks, kidsR next nds y wd = ks := ⟨_, rfl⟩
  have hkl : ks.length ≤ 4096 := by rw [← hks]; exact kidsR_len
  obtain ⟨rl, hrl⟩ : ∃ rl, plR next nds xb wd = rl := ⟨_, rfl⟩
  obtain ⟨ra, hra⟩ : ∃ ra, plA next nds xb xt wd = ra := ⟨_, rfl⟩
  have hrs : rl.size ≤ maxLen := by
    rw [← hrl]
    unfold plR
    split
    · decide
    · exact hsw
  obtain ⟨R, hR⟩ : ∃ R, resR next (removeE next nds id) (removeL nds id) = R := ⟨_, rfl⟩
  have HAct : Hid (actR next nds ⟨kd, xa, xb, xt, wd, tx⟩ = R) := Lib.hid (by
    unfold actR actP
    simp only [hk, hid, hy, hrl, hra]
    exact hR)
  have HPa : Hid (∀ X, Below w.heap.size w X → ∀ z, Calls Tryz.prog 15 #[.agg #[.int .i64 next, .slice A n c], .int .i64 z] X (Ret X (.int .i64 (pickV next nds z)))) := Lib.hid fun X hX z => pick_any X hi next z A n c nds (h.below (hX.mono hh)) (Nat.le_trans hh hX.size)
  have HKi : Hid (∀ X, Below w.heap.size w X → Calls Tryz.prog 17 #[.agg #[.int .i64 next, .slice A n c], .int .i64 y, .string wd] X (ListR X ks)) := Lib.hid fun X hX => hks ▸ kidsQ_any X hi next y wd A n c nds (h.below (hX.mono hh)) (Nat.le_trans hh hX.size)
  obtain ⟨rr, hrr⟩ : ∃ rr, restV xt (ks.length + 1) = rr := ⟨_, rfl⟩
  have HRt : Hid (∀ X, Calls Tryz.prog 16 #[.int .i64 xt, .int .i64 (ks.length + 1)] X fun e w' => e = .returned (.int .i64 rr) ∧ X = w') := Lib.hid fun X => by
    have := rest_any X xt (ks.length + 1) (by omega) (by omega)
    rw [hrr] at this
    exact this
  have HRk : Hid (∀ X, Calls Tryz.prog 16 #[.int .i64 kd, .int .i64 7] X fun e w' => e = .returned (.int .i64 4) ∧ X = w') := Lib.hid fun X => by
    have := rest_any X kd 7 (by omega) (by omega)
    rw [hk] at this
    exact this
  have HRL : Hid ((y = 0 → rl = ⟨#[]⟩ ∧ ra = 0) ∧ (y ≠ 0 → rl = wd ∧ ra = rr)) := Lib.hid (by
    rw [← hrl, ← hra]
    unfold plR plA
    rw [hy, hks, hrr]
    exact ⟨fun h => by rw [if_pos h, if_pos h]; exact ⟨rfl, rfl⟩, fun h => by rw [if_neg h, if_neg h]; exact ⟨rfl, rfl⟩⟩)
  have HCa : Hid (∀ X, Below w.heap.size w X → Calls Tryz.prog 19 #[.agg #[.int .i64 next, .slice A n c], .int .i64 id] X (TwoOwn X R)) := Lib.hid fun X hX => (remove_any X hi next id A n c nds (h.below (hX.mono hh)) (Nat.le_trans hh hX.size) hf).mono fun e w' he => hR ▸ two_of he
  have hPid : Hid (pickV next nds xa = id) := Lib.hid hid
  have hPy : Hid (pickV next nds xb = y) := Lib.hid hy
  have HSof : Hid (∀ X, DB w next A n c kd xa xb xt wd tx X → X.cell? ⟨w.heap.size, 0, none⟩ = some (.int .i64 next) ∧ X.cell? ⟨w.heap.size, 1, none⟩ = some (.slice A n c) ∧ X.cell? ⟨w.heap.size + 1, 3, none⟩ = some (.int .i64 xt)) := Lib.hid fun X hX => ⟨(hX.m.cell 0).trans rfl, (hX.m.cell 1).trans rfl, (hX.a.cell 3).trans rfl⟩
  have hkw : IntKind.i64.wrap ((ks.length : Int) + 1) = (ks.length : Int) + 1 := IntWalk.i64_in _ (by omega)
  obtain ⟨Rx, Re, Rn⟩ := R
  clear h hh hf hR hid hy hks hrr hrl hra hrs hsw hst hk hkl hc hnc
  go_enter Tryz.func9, Tryz.ntmps9
  go_upto_region 1 with (fail)
  generalize ((w.alloc (.cells #[.int .i64 next, .slice A n c] 26)).alloc (.cells #[.int .i64 kd, .int .i64 xa, .int .i64 xb, .int .i64 xt, .string wd, .string tx] 32)).alloc (.cells #[.int .i64 0, .slice none 0 0] 26) = X0 at HD0 ⊢
  have q0 := cell_regrown ((HD0.out.m.cell 0).trans (show _ = some (.int .i64 next) from rfl))
  have q1 := cell_regrown ((HD0.out.m.cell 1).trans (show _ = some (.slice A n c) from rfl))
  have q2 := cell_regrown ((HD0.out.a.cell 1).trans (show _ = some (.int .i64 xa) from rfl))
  have q3 := cell_regrown ((HD0.out.a.cell 2).trans (show _ = some (.int .i64 xb) from rfl))
  have HPa1 : Hid (∀ d os, Calls Tryz.prog 15 #[.agg #[.int .i64 next, .slice A n c], .int .i64 xa] (grow (redrawn X0 d) os) (Ret (grow (redrawn X0 d) os) (.int .i64 id))) := Lib.hid fun d os => hPid.out ▸ HPa.out _ (HD0.out.bel.trans ((below_regrown X0 d os).mono HD0.out.bel.size)) xa
  have HPb1 : Hid (∀ d os, Calls Tryz.prog 15 #[.agg #[.int .i64 next, .slice A n c], .int .i64 xb] (grow (redrawn X0 d) os) (Ret (grow (redrawn X0 d) os) (.int .i64 y))) := Lib.hid fun d os => hPy.out ▸ HPa.out _ (HD0.out.bel.trans ((below_regrown X0 d os).mono HD0.out.bel.size)) xb
  refine wp_region_quiet_below (by kernel_rfl) (by kernel_rfl) ?_
  repeat (go_big_quiet_step ((first | (go_at_call_has 15 xa; exact regrown_ret (HPa1.out _ _)) | (go_at_call_has 15 xb; exact regrown_ret (HPb1.out _ _)))))
  refine wpQuiet_nil ?_
  intro _ hw'
  obtain ⟨⟨dq, osq⟩, hw''⟩ := hw'
  subst hw''
  have HX := Lib.hid (HD0.out.after (below_regrown _ dq osq))
  generalize grow (redrawn _ dq) osq = X1 at HX ⊢
  clear q0 q1 q2 q3 HD0
  have c4 := (HX.out.a.cell 4).trans (show _ = some (.string wd) from rfl)
  go_upto_region 3 with (fail)
  clear c4
  replace HX := Lib.hid (HX.out.after (below_drew1 _))
  refine wp_region_held_tail 9 (fun w' => w'.cell? ⟨w.heap.size, 0, none⟩ = some (.int .i64 next) ∧ w'.cell? ⟨w.heap.size, 1, none⟩ = some (.slice A n c) ∧ w'.cell? ⟨w.heap.size + 1, 3, none⟩ = some (.int .i64 xt)) (by kernel_rfl) (by kernel_rfl) ?hSt (fun hHeld => ?qt0)
  case hSt => exact HSof.out _ HX.out
  case qt0 =>
    generalize X1.drew = wz at HX hHeld ⊢
    simp only [List.take_succ_cons, List.take_zero, List.drop_succ_cons, List.drop_zero]
    refine wpAnyH_take (i := 0) (v := (.pointer (some ⟨w.heap.size + 1, 3, none⟩))) rfl (by kernel_rfl) (by kernel_rfl) (by kernel_rfl) (fun _ _ _ h => h) (Or.inl ⟨by rfl, ?yt_1⟩) (by assumption) ?qt_1
    case yt_1 => (intro w hSw; (try dsimp only at hSw); go_simp)
    case qt_1 =>
      (try simp only [Act.put]); (try simp only [List.setIfInBounds_toArray])
      refine wpAnyH_take (i := 1) (v := (.int .i64 xt)) rfl (by kernel_rfl) (by kernel_rfl) (by kernel_rfl) (fun _ _ _ h => h) (Or.inl ⟨by rfl, ?yt_2⟩) (by assumption) ?qt_2
      case yt_2 => (intro w hSw; (try dsimp only at hSw); go_simp)
      case qt_2 =>
        (try simp only [Act.put]); (try simp only [List.setIfInBounds_toArray])
        refine wpAnyH_take (i := 2) (v := (.agg #[.int .i64 next, .slice A n c])) rfl (by kernel_rfl) (by kernel_rfl) (by kernel_rfl) (fun _ _ _ h => h) (Or.inl ⟨by rfl, ?yt_3⟩) (by assumption) ?qt_3
        case yt_3 => (intro w hSw; (try dsimp only at hSw); go_simp)
        case qt_3 =>
          (try simp only [Act.put]); (try simp only [List.setIfInBounds_toArray])
          refine wpAnyH_take (i := 3) (v := (.int .i64 y)) rfl (by kernel_rfl) (by kernel_rfl) (by kernel_rfl) (fun _ _ _ h => h) (Or.inl ⟨by rfl, ?yt_4⟩) (by assumption) ?qt_4
          case yt_4 => (intro w hSw; (try dsimp only at hSw); go_simp)
          case qt_4 =>
            (try simp only [Act.put]); (try simp only [List.setIfInBounds_toArray])
            refine wpAnyH_take (i := 4) (v := (.string wd)) rfl (by kernel_rfl) (by kernel_rfl) (by kernel_rfl) (fun _ _ _ h => h) (Or.inl ⟨by rfl, ?yt_5⟩) (by assumption) ?qt_5
            case yt_5 => (intro w hSw; (try dsimp only at hSw); go_simp)
            case qt_5 =>
              (try simp only [Act.put]); (try simp only [List.setIfInBounds_toArray])
              refine wpAnyH_ready (rs := [5]) (by kernel_rfl) (by simp) ?_
              refine AllReadyH.cons rfl (fun K hK => ?st_6) ?mt_6
              case st_6 =>
                (refine step_call _ (by rfl) 17 #[.agg #[.int .i64 next, .slice A n c], .int .i64 y, .string wd] (by go_simp) (HKi.out _ HX.out.bel) ?_; rintro e Yb ⟨v, rfl, hvk, hbb⟩; obtain ⟨Ak, ck, hke⟩ := own_form hvk; subst hke; refine ⟨_, rfl, ?_⟩; replace HX := Lib.hid (HX.out.after hbb); clear hbb hvk)
                refine hK.out _ _ ?kt_6 (fun hHeld => ?qt_6)
                case kt_6 => ((try dsimp only); exact HSof.out _ HX.out)
                case qt_6 =>
                  clear hK K
                  (try simp only [Act.put]); (try simp only [List.setIfInBounds_toArray])
                  refine wpAnyH_take (i := 6) (v := (.int .i64 ks.length)) rfl (by kernel_rfl) (by kernel_rfl) (by kernel_rfl) (fun _ _ _ h => h) (Or.inl ⟨by rfl, ?yt_7⟩) (by assumption) ?qt_7
                  case yt_7 => (intro w hSw; (try dsimp only at hSw); go_simp)
                  case qt_7 =>
                    (try simp only [Act.put]); (try simp only [List.setIfInBounds_toArray])
                    refine wpAnyH_take (i := 7) (v := (.int .i64 (ks.length + 1))) rfl (by kernel_rfl) (by kernel_rfl) (by kernel_rfl) (fun _ _ _ h => h) (Or.inl ⟨by rfl, ?yt_8⟩) (by assumption) ?qt_8
                    case yt_8 => (intro w hSw; (try dsimp only at hSw); go_simp)
                    case qt_8 =>
                      (try simp only [Act.put]); (try simp only [List.setIfInBounds_toArray])
                      refine wpAnyH_ready (rs := [8]) (by kernel_rfl) (by simp) ?_
                      refine AllReadyH.cons rfl (fun K hK => ?st_9) ?mt_9
                      case st_9 =>
                        (refine step_call _ (by rfl) 16 #[.int .i64 xt, .int .i64 (ks.length + 1)] (by go_simp) (HRt.out _) ?_; rintro e Yc ⟨rfl, rfl⟩; refine ⟨_, rfl, ?_⟩)
                        refine hK.out _ _ ?kt_9 (fun hHeld => ?qt_9)
                        case kt_9 => ((try dsimp only); exact HSof.out _ HX.out)
                        case qt_9 =>
                          clear hK K
                          (try simp only [Act.put]); (try simp only [List.setIfInBounds_toArray])
                          refine wpAnyH_done (by kernel_rfl) ?_ _
                          show wpList _ _ _ _ _ _
                          clear hHeld
                          go_upto_if 32 with (fail)
                          rename World => X2
                          go_cut [8, 9] (fun s8 s9 wx => s8 = .string rl ∧ s9 = .int .i64 ra ∧ X2 = wx)
                          case first =>
                            by_cases hy0 : y = 0
                            · have hyb : (y == 0) = true := by rw [beq_iff_eq]; exact hy0
                              have HYL := Lib.hid (HRL.out.1 hy0)
                              clear hy0
                              go_wp2_with fail
                              go_meet
                              exact ⟨by rw [HYL.out.1], by rw [HYL.out.2], rfl⟩
                            · have hyb : (y == 0) = false := by rw [beq_eq_false_iff_ne]; exact hy0
                              have HYL := Lib.hid (HRL.out.2 hy0)
                              clear hy0
                              go_wp2_with fail
                              go_meet
                              exact ⟨by rw [HYL.out.1], by rw [HYL.out.2], rfl⟩
                          case rest =>
                            obtain ⟨rfl, rfl, rfl⟩ := hcut
                            have m0 := (HX.out.m.cell 0).trans (show _ = some (.int .i64 next) from rfl)
                            have m1 := (HX.out.m.cell 1).trans (show _ = some (.slice A n c) from rfl)
                            have a0 := (HX.out.a.cell 0).trans (show _ = some (.int .i64 kd) from rfl)
                            have HO := Lib.hid (HX.out.more next A n c)
                            go_upto_region 7 with (fail)
                            generalize X2.alloc (.cells #[.int .i64 next, .slice A n c] 26) = X3 at HO ⊢
                            generalize X2.heap.size = go at HO ⊢
                            clear m0 m1 a0
                            have m0 := (HO.out.d.m.cell 0).trans (show _ = some (.int .i64 next) from rfl)
                            have m1 := (HO.out.d.m.cell 1).trans (show _ = some (.slice A n c) from rfl)
                            have a0 := (HO.out.d.a.cell 0).trans (show _ = some (.int .i64 kd) from rfl)
                            have a4 := (HO.out.d.a.cell 4).trans (show _ = some (.string wd) from rfl)
                            have a5 := (HO.out.d.a.cell 5).trans (show _ = some (.string tx) from rfl)
                            have o0 := (HO.out.out.cell 0).trans (show _ = some (.int .i64 next) from rfl)
                            have o1 := (HO.out.out.cell 1).trans (show _ = some (.slice A n c) from rfl)
                            have o2 := HO.out.out.frozen 0
                            have o3 := HO.out.out.frozen 1
                            go_upto_region 20 with (first | (go_at_call 16; (with_reducible refine (HRk.out _).mono ?_); go_must (rintro e wk ⟨rfl, rfl⟩)) | (go_at_call 19; (with_reducible refine (HCa.out _ HO.out.d.bel).mono ?_); go_must (rintro e w5 ⟨A5, n5, c5, l5, rfl, ho5, hl5, hm5, hb5⟩; replace ho5 := ho5.mono HO.out.d.bel.size; have hO5 := HO.out.after hb5; have hs5 := hO5.set Rx A5 n5 c5; have hq5 := (ho5.other hO5.out 0 (.int .i64 Rx)).other (hO5.out.set_ 0 _) 1 (.slice A5 n5 c5); have p0 := (hO5.out.cell 0).trans (show _ = some (.int .i64 next) from rfl); have p1 := (hO5.out.cell 1).trans (show _ = some (.slice A n c) from rfl); have p2 := hO5.out.frozen 0; have p3 := hO5.out.frozen 1; have HS5 := Lib.hid hs5; have HQ5 := Lib.hid hq5; have HL5 := Lib.hid hl5; have HM5 := Lib.hid hm5; clear ho5 hO5 hs5 hq5 hl5 hm5 hb5)))
                            generalize (w5.setCell ⟨go, 0, none⟩ (.int .i64 Rx)).setCell ⟨go, 1, none⟩ (.slice A5 n5 c5) = Y at HS5 HQ5 ⊢
                            clear m0 m1 a0 a4 a5 o0 o1 o2 o3 p0 p1 p2 p3 HO
                            have y0 := (HS5.out.out.cell 0).trans (show _ = some (.int .i64 Rx) from rfl)
                            have y1 := (HS5.out.out.cell 1).trans (show _ = some (.slice A5 n5 c5) from rfl)
                            have m0 := (HS5.out.d.m.cell 0).trans (show _ = some (.int .i64 next) from rfl)
                            have m1 := (HS5.out.d.m.cell 1).trans (show _ = some (.slice A n c) from rfl)
                            have r0 : Y.cell? ⟨w.heap.size + 1 + 1, 0, none⟩ = some (.int .i64 0) := (HS5.out.d.r.cell 0).trans rfl
                            have r1 : Y.cell? ⟨w.heap.size + 1 + 1, 1, none⟩ = some (.slice none 0 0) := (HS5.out.d.r.cell 1).trans rfl
                            have r2 : Y.frozen? ⟨w.heap.size + 1 + 1, 0, none⟩ = false := HS5.out.d.r.frozen 0
                            have r3 : Y.frozen? ⟨w.heap.size + 1 + 1, 1, none⟩ = false := HS5.out.d.r.frozen 1
                            by_cases he : Re = 0
                            · have heb : (Re != 0) = false := by rw [he]; rfl
                              have HE := Lib.hid he
                              clear he
                              go_wp2_with fail
                              (try rw [Exit.noGoto_ret])
                              (try simp only [Exit.inBlock, Exit.then])
                              refine bodyPost_ret (v := .tuple #[.agg #[.int .i64 Rx, .slice A5 n5 c5], .int .i64 Re]) ?hr rfl ?_
                              case hr =>
                                simp only [results, hres]
                                go_simp
                              rw [HAct.out]
                              exact ⟨Rx, A5, n5, c5, rfl, (HS5.out.d.bel.setCell (p := ⟨w.heap.size + 1 + 1, 0, none⟩) (by simp; omega) _).setCell (p := ⟨w.heap.size + 1 + 1, 1, none⟩) (by simp; omega) _, fun h => absurd HE.out h, fun _ => ⟨rfl, l5, (HQ5.out.other HS5.out.d.r 0 _).other (HS5.out.d.r.set_ 0 _) 1 _, HL5.out, HM5.out⟩⟩
                            · have heb : (Re != 0) = true := by rw [bne_iff_ne]; exact he
                              have HE := Lib.hid he
                              clear he
                              go_wp2_with fail
                              (try rw [Exit.noGoto_ret])
                              (try simp only [Exit.inBlock, Exit.then])
                              refine bodyPost_ret (v := .tuple #[.agg #[.int .i64 next, .slice A n c], .int .i64 Re]) ?hr rfl ?_
                              case hr =>
                                simp only [results, hres]
                                go_simp
                              rw [HAct.out]
                              exact ⟨next, A, n, c, rfl, (HS5.out.d.bel.setCell (p := ⟨w.heap.size + 1 + 1, 0, none⟩) (by simp; omega) _).setCell (p := ⟨w.heap.size + 1 + 1, 1, none⟩) (by simp; omega) _, fun _ => ⟨rfl, rfl, rfl, rfl⟩, fun h => absurd h HE.out⟩
                      case mt_9 =>
                        exact AllReadyH.nil
              case mt_6 =>
                exact AllReadyH.nil
set_option maxRecDepth 20000 in
set_option maxHeartbeats 3200000 in
theorem done_k5 (w : World) (hi : Nat) (next : Int) (A : Option Addr) (n c : Nat) (nds : List Nd) (kd xa xb xt : Int) (wd tx : ByteArray) (h : NodesIn w 0 hi A n c nds) (hh : hi ≤ w.heap.size) (hsw : wd.size ≤ maxLen) (hst : tx.size ≤ maxLen) (hf : ∀ nd ∈ nds, Fits 1 nd) (hk : restV kd 7 = 5) :
    Calls Tryz.prog 9 #[.agg #[.int .i64 next, .slice A n c], .agg #[.int .i64 kd, .int .i64 xa, .int .i64 xb, .int .i64 xt, .string wd, .string tx]] w (DonePost w next A n c (actR next nds ⟨kd, xa, xb, xt, wd, tx⟩)) := by
  have hres : Tryz.f9.results = #[.cell 4 26, .tmp 5] := by kernel_rfl
  have hc := h.2.2.1
  have hnc := h.2.1
  have HD0 := Lib.hid (DB.start w next A n c kd xa xb xt wd tx)
  obtain ⟨id, hid⟩ : ∃ id, pickV next nds xa = id := ⟨_, rfl⟩
  obtain ⟨y, hy⟩ : ∃ y, pickV next nds xb = y := ⟨_, rfl⟩
  obtain ⟨ks, hks⟩ : ∃ ks, kidsR next nds y wd = ks := ⟨_, rfl⟩
  have hkl : ks.length ≤ 4096 := by rw [← hks]; exact kidsR_len
  obtain ⟨rl, hrl⟩ : ∃ rl, plR next nds xb wd = rl := ⟨_, rfl⟩
  obtain ⟨ra, hra⟩ : ∃ ra, plA next nds xb xt wd = ra := ⟨_, rfl⟩
  have hrs : rl.size ≤ maxLen := by
    rw [← hrl]
    unfold plR
    split
    · decide
    · exact hsw
  obtain ⟨R, hR⟩ : ∃ R, resR next (chE (putE next nds wd tx) nds id) (chL nds id fun nd => putN nd wd tx) = R := ⟨_, rfl⟩
  have HAct : Hid (actR next nds ⟨kd, xa, xb, xt, wd, tx⟩ = R) := Lib.hid (by
    unfold actR actP
    simp only [hk, hid, hy, hrl, hra]
    exact hR)
  have HPa : Hid (∀ X, Below w.heap.size w X → ∀ z, Calls Tryz.prog 15 #[.agg #[.int .i64 next, .slice A n c], .int .i64 z] X (Ret X (.int .i64 (pickV next nds z)))) := Lib.hid fun X hX z => pick_any X hi next z A n c nds (h.below (hX.mono hh)) (Nat.le_trans hh hX.size)
  have HKi : Hid (∀ X, Below w.heap.size w X → Calls Tryz.prog 17 #[.agg #[.int .i64 next, .slice A n c], .int .i64 y, .string wd] X (ListR X ks)) := Lib.hid fun X hX => hks ▸ kidsQ_any X hi next y wd A n c nds (h.below (hX.mono hh)) (Nat.le_trans hh hX.size)
  obtain ⟨rr, hrr⟩ : ∃ rr, restV xt (ks.length + 1) = rr := ⟨_, rfl⟩
  have HRt : Hid (∀ X, Calls Tryz.prog 16 #[.int .i64 xt, .int .i64 (ks.length + 1)] X fun e w' => e = .returned (.int .i64 rr) ∧ X = w') := Lib.hid fun X => by
    have := rest_any X xt (ks.length + 1) (by omega) (by omega)
    rw [hrr] at this
    exact this
  have HRk : Hid (∀ X, Calls Tryz.prog 16 #[.int .i64 kd, .int .i64 7] X fun e w' => e = .returned (.int .i64 5) ∧ X = w') := Lib.hid fun X => by
    have := rest_any X kd 7 (by omega) (by omega)
    rw [hk] at this
    exact this
  have HRL : Hid ((y = 0 → rl = ⟨#[]⟩ ∧ ra = 0) ∧ (y ≠ 0 → rl = wd ∧ ra = rr)) := Lib.hid (by
    rw [← hrl, ← hra]
    unfold plR plA
    rw [hy, hks, hrr]
    exact ⟨fun h => by rw [if_pos h, if_pos h]; exact ⟨rfl, rfl⟩, fun h => by rw [if_neg h, if_neg h]; exact ⟨rfl, rfl⟩⟩)
  have HCa : Hid (∀ X, Below w.heap.size w X → Calls Tryz.prog 29 #[.agg #[.int .i64 next, .slice A n c], .int .i64 id, .string wd, .string tx] X (TwoOwn X R)) := Lib.hid fun X hX => (arenaPut_any X hi next id A n c nds wd tx hst (h.below (hX.mono hh)) (Nat.le_trans hh hX.size) hsw (fun hrt => ⟨(rightM hrt).rise, by have := (rightM hrt).len; have := h.1; omega, hf, fun nd hnd => (right_sorts hrt nd hnd).1⟩)).mono fun e w' he => hR ▸ two_of he
  have hPid : Hid (pickV next nds xa = id) := Lib.hid hid
  have hPy : Hid (pickV next nds xb = y) := Lib.hid hy
  have HSof : Hid (∀ X, DB w next A n c kd xa xb xt wd tx X → X.cell? ⟨w.heap.size, 0, none⟩ = some (.int .i64 next) ∧ X.cell? ⟨w.heap.size, 1, none⟩ = some (.slice A n c) ∧ X.cell? ⟨w.heap.size + 1, 3, none⟩ = some (.int .i64 xt)) := Lib.hid fun X hX => ⟨(hX.m.cell 0).trans rfl, (hX.m.cell 1).trans rfl, (hX.a.cell 3).trans rfl⟩
  have hkw : IntKind.i64.wrap ((ks.length : Int) + 1) = (ks.length : Int) + 1 := IntWalk.i64_in _ (by omega)
  obtain ⟨Rx, Re, Rn⟩ := R
  clear h hh hf hR hid hy hks hrr hrl hra hrs hsw hst hk hkl hc hnc
  go_enter Tryz.func9, Tryz.ntmps9
  go_upto_region 1 with (fail)
  generalize ((w.alloc (.cells #[.int .i64 next, .slice A n c] 26)).alloc (.cells #[.int .i64 kd, .int .i64 xa, .int .i64 xb, .int .i64 xt, .string wd, .string tx] 32)).alloc (.cells #[.int .i64 0, .slice none 0 0] 26) = X0 at HD0 ⊢
  have q0 := cell_regrown ((HD0.out.m.cell 0).trans (show _ = some (.int .i64 next) from rfl))
  have q1 := cell_regrown ((HD0.out.m.cell 1).trans (show _ = some (.slice A n c) from rfl))
  have q2 := cell_regrown ((HD0.out.a.cell 1).trans (show _ = some (.int .i64 xa) from rfl))
  have q3 := cell_regrown ((HD0.out.a.cell 2).trans (show _ = some (.int .i64 xb) from rfl))
  have HPa1 : Hid (∀ d os, Calls Tryz.prog 15 #[.agg #[.int .i64 next, .slice A n c], .int .i64 xa] (grow (redrawn X0 d) os) (Ret (grow (redrawn X0 d) os) (.int .i64 id))) := Lib.hid fun d os => hPid.out ▸ HPa.out _ (HD0.out.bel.trans ((below_regrown X0 d os).mono HD0.out.bel.size)) xa
  have HPb1 : Hid (∀ d os, Calls Tryz.prog 15 #[.agg #[.int .i64 next, .slice A n c], .int .i64 xb] (grow (redrawn X0 d) os) (Ret (grow (redrawn X0 d) os) (.int .i64 y))) := Lib.hid fun d os => hPy.out ▸ HPa.out _ (HD0.out.bel.trans ((below_regrown X0 d os).mono HD0.out.bel.size)) xb
  refine wp_region_quiet_below (by kernel_rfl) (by kernel_rfl) ?_
  repeat (go_big_quiet_step ((first | (go_at_call_has 15 xa; exact regrown_ret (HPa1.out _ _)) | (go_at_call_has 15 xb; exact regrown_ret (HPb1.out _ _)))))
  refine wpQuiet_nil ?_
  intro _ hw'
  obtain ⟨⟨dq, osq⟩, hw''⟩ := hw'
  subst hw''
  have HX := Lib.hid (HD0.out.after (below_regrown _ dq osq))
  generalize grow (redrawn _ dq) osq = X1 at HX ⊢
  clear q0 q1 q2 q3 HD0
  have c4 := (HX.out.a.cell 4).trans (show _ = some (.string wd) from rfl)
  go_upto_region 3 with (fail)
  clear c4
  replace HX := Lib.hid (HX.out.after (below_drew1 _))
  refine wp_region_held_tail 9 (fun w' => w'.cell? ⟨w.heap.size, 0, none⟩ = some (.int .i64 next) ∧ w'.cell? ⟨w.heap.size, 1, none⟩ = some (.slice A n c) ∧ w'.cell? ⟨w.heap.size + 1, 3, none⟩ = some (.int .i64 xt)) (by kernel_rfl) (by kernel_rfl) ?hSt (fun hHeld => ?qt0)
  case hSt => exact HSof.out _ HX.out
  case qt0 =>
    generalize X1.drew = wz at HX hHeld ⊢
    simp only [List.take_succ_cons, List.take_zero, List.drop_succ_cons, List.drop_zero]
    refine wpAnyH_take (i := 0) (v := (.pointer (some ⟨w.heap.size + 1, 3, none⟩))) rfl (by kernel_rfl) (by kernel_rfl) (by kernel_rfl) (fun _ _ _ h => h) (Or.inl ⟨by rfl, ?yt_1⟩) (by assumption) ?qt_1
    case yt_1 => (intro w hSw; (try dsimp only at hSw); go_simp)
    case qt_1 =>
      (try simp only [Act.put]); (try simp only [List.setIfInBounds_toArray])
      refine wpAnyH_take (i := 1) (v := (.int .i64 xt)) rfl (by kernel_rfl) (by kernel_rfl) (by kernel_rfl) (fun _ _ _ h => h) (Or.inl ⟨by rfl, ?yt_2⟩) (by assumption) ?qt_2
      case yt_2 => (intro w hSw; (try dsimp only at hSw); go_simp)
      case qt_2 =>
        (try simp only [Act.put]); (try simp only [List.setIfInBounds_toArray])
        refine wpAnyH_take (i := 2) (v := (.agg #[.int .i64 next, .slice A n c])) rfl (by kernel_rfl) (by kernel_rfl) (by kernel_rfl) (fun _ _ _ h => h) (Or.inl ⟨by rfl, ?yt_3⟩) (by assumption) ?qt_3
        case yt_3 => (intro w hSw; (try dsimp only at hSw); go_simp)
        case qt_3 =>
          (try simp only [Act.put]); (try simp only [List.setIfInBounds_toArray])
          refine wpAnyH_take (i := 3) (v := (.int .i64 y)) rfl (by kernel_rfl) (by kernel_rfl) (by kernel_rfl) (fun _ _ _ h => h) (Or.inl ⟨by rfl, ?yt_4⟩) (by assumption) ?qt_4
          case yt_4 => (intro w hSw; (try dsimp only at hSw); go_simp)
          case qt_4 =>
            (try simp only [Act.put]); (try simp only [List.setIfInBounds_toArray])
            refine wpAnyH_take (i := 4) (v := (.string wd)) rfl (by kernel_rfl) (by kernel_rfl) (by kernel_rfl) (fun _ _ _ h => h) (Or.inl ⟨by rfl, ?yt_5⟩) (by assumption) ?qt_5
            case yt_5 => (intro w hSw; (try dsimp only at hSw); go_simp)
            case qt_5 =>
              (try simp only [Act.put]); (try simp only [List.setIfInBounds_toArray])
              refine wpAnyH_ready (rs := [5]) (by kernel_rfl) (by simp) ?_
              refine AllReadyH.cons rfl (fun K hK => ?st_6) ?mt_6
              case st_6 =>
                (refine step_call _ (by rfl) 17 #[.agg #[.int .i64 next, .slice A n c], .int .i64 y, .string wd] (by go_simp) (HKi.out _ HX.out.bel) ?_; rintro e Yb ⟨v, rfl, hvk, hbb⟩; obtain ⟨Ak, ck, hke⟩ := own_form hvk; subst hke; refine ⟨_, rfl, ?_⟩; replace HX := Lib.hid (HX.out.after hbb); clear hbb hvk)
                refine hK.out _ _ ?kt_6 (fun hHeld => ?qt_6)
                case kt_6 => ((try dsimp only); exact HSof.out _ HX.out)
                case qt_6 =>
                  clear hK K
                  (try simp only [Act.put]); (try simp only [List.setIfInBounds_toArray])
                  refine wpAnyH_take (i := 6) (v := (.int .i64 ks.length)) rfl (by kernel_rfl) (by kernel_rfl) (by kernel_rfl) (fun _ _ _ h => h) (Or.inl ⟨by rfl, ?yt_7⟩) (by assumption) ?qt_7
                  case yt_7 => (intro w hSw; (try dsimp only at hSw); go_simp)
                  case qt_7 =>
                    (try simp only [Act.put]); (try simp only [List.setIfInBounds_toArray])
                    refine wpAnyH_take (i := 7) (v := (.int .i64 (ks.length + 1))) rfl (by kernel_rfl) (by kernel_rfl) (by kernel_rfl) (fun _ _ _ h => h) (Or.inl ⟨by rfl, ?yt_8⟩) (by assumption) ?qt_8
                    case yt_8 => (intro w hSw; (try dsimp only at hSw); go_simp)
                    case qt_8 =>
                      (try simp only [Act.put]); (try simp only [List.setIfInBounds_toArray])
                      refine wpAnyH_ready (rs := [8]) (by kernel_rfl) (by simp) ?_
                      refine AllReadyH.cons rfl (fun K hK => ?st_9) ?mt_9
                      case st_9 =>
                        (refine step_call _ (by rfl) 16 #[.int .i64 xt, .int .i64 (ks.length + 1)] (by go_simp) (HRt.out _) ?_; rintro e Yc ⟨rfl, rfl⟩; refine ⟨_, rfl, ?_⟩)
                        refine hK.out _ _ ?kt_9 (fun hHeld => ?qt_9)
                        case kt_9 => ((try dsimp only); exact HSof.out _ HX.out)
                        case qt_9 =>
                          clear hK K
                          (try simp only [Act.put]); (try simp only [List.setIfInBounds_toArray])
                          refine wpAnyH_done (by kernel_rfl) ?_ _
                          show wpList _ _ _ _ _ _
                          clear hHeld
                          go_upto_if 32 with (fail)
                          rename World => X2
                          go_cut [8, 9] (fun s8 s9 wx => s8 = .string rl ∧ s9 = .int .i64 ra ∧ X2 = wx)
                          case first =>
                            by_cases hy0 : y = 0
                            · have hyb : (y == 0) = true := by rw [beq_iff_eq]; exact hy0
                              have HYL := Lib.hid (HRL.out.1 hy0)
                              clear hy0
                              go_wp2_with fail
                              go_meet
                              exact ⟨by rw [HYL.out.1], by rw [HYL.out.2], rfl⟩
                            · have hyb : (y == 0) = false := by rw [beq_eq_false_iff_ne]; exact hy0
                              have HYL := Lib.hid (HRL.out.2 hy0)
                              clear hy0
                              go_wp2_with fail
                              go_meet
                              exact ⟨by rw [HYL.out.1], by rw [HYL.out.2], rfl⟩
                          case rest =>
                            obtain ⟨rfl, rfl, rfl⟩ := hcut
                            have m0 := (HX.out.m.cell 0).trans (show _ = some (.int .i64 next) from rfl)
                            have m1 := (HX.out.m.cell 1).trans (show _ = some (.slice A n c) from rfl)
                            have a0 := (HX.out.a.cell 0).trans (show _ = some (.int .i64 kd) from rfl)
                            have HO := Lib.hid (HX.out.more next A n c)
                            go_upto_region 7 with (fail)
                            generalize X2.alloc (.cells #[.int .i64 next, .slice A n c] 26) = X3 at HO ⊢
                            generalize X2.heap.size = go at HO ⊢
                            clear m0 m1 a0
                            have m0 := (HO.out.d.m.cell 0).trans (show _ = some (.int .i64 next) from rfl)
                            have m1 := (HO.out.d.m.cell 1).trans (show _ = some (.slice A n c) from rfl)
                            have a0 := (HO.out.d.a.cell 0).trans (show _ = some (.int .i64 kd) from rfl)
                            have a4 := (HO.out.d.a.cell 4).trans (show _ = some (.string wd) from rfl)
                            have a5 := (HO.out.d.a.cell 5).trans (show _ = some (.string tx) from rfl)
                            have o0 := (HO.out.out.cell 0).trans (show _ = some (.int .i64 next) from rfl)
                            have o1 := (HO.out.out.cell 1).trans (show _ = some (.slice A n c) from rfl)
                            have o2 := HO.out.out.frozen 0
                            have o3 := HO.out.out.frozen 1
                            go_upto_region 20 with (first | (go_at_call 16; (with_reducible refine (HRk.out _).mono ?_); go_must (rintro e wk ⟨rfl, rfl⟩)) | (go_at_call 29; (with_reducible refine (HCa.out _ HO.out.d.bel).mono ?_); go_must (rintro e w5 ⟨A5, n5, c5, l5, rfl, ho5, hl5, hm5, hb5⟩; replace ho5 := ho5.mono HO.out.d.bel.size; have hO5 := HO.out.after hb5; have hs5 := hO5.set Rx A5 n5 c5; have hq5 := (ho5.other hO5.out 0 (.int .i64 Rx)).other (hO5.out.set_ 0 _) 1 (.slice A5 n5 c5); have p0 := (hO5.out.cell 0).trans (show _ = some (.int .i64 next) from rfl); have p1 := (hO5.out.cell 1).trans (show _ = some (.slice A n c) from rfl); have p2 := hO5.out.frozen 0; have p3 := hO5.out.frozen 1; have HS5 := Lib.hid hs5; have HQ5 := Lib.hid hq5; have HL5 := Lib.hid hl5; have HM5 := Lib.hid hm5; clear ho5 hO5 hs5 hq5 hl5 hm5 hb5)))
                            generalize (w5.setCell ⟨go, 0, none⟩ (.int .i64 Rx)).setCell ⟨go, 1, none⟩ (.slice A5 n5 c5) = Y at HS5 HQ5 ⊢
                            clear m0 m1 a0 a4 a5 o0 o1 o2 o3 p0 p1 p2 p3 HO
                            have y0 := (HS5.out.out.cell 0).trans (show _ = some (.int .i64 Rx) from rfl)
                            have y1 := (HS5.out.out.cell 1).trans (show _ = some (.slice A5 n5 c5) from rfl)
                            have m0 := (HS5.out.d.m.cell 0).trans (show _ = some (.int .i64 next) from rfl)
                            have m1 := (HS5.out.d.m.cell 1).trans (show _ = some (.slice A n c) from rfl)
                            have r0 : Y.cell? ⟨w.heap.size + 1 + 1, 0, none⟩ = some (.int .i64 0) := (HS5.out.d.r.cell 0).trans rfl
                            have r1 : Y.cell? ⟨w.heap.size + 1 + 1, 1, none⟩ = some (.slice none 0 0) := (HS5.out.d.r.cell 1).trans rfl
                            have r2 : Y.frozen? ⟨w.heap.size + 1 + 1, 0, none⟩ = false := HS5.out.d.r.frozen 0
                            have r3 : Y.frozen? ⟨w.heap.size + 1 + 1, 1, none⟩ = false := HS5.out.d.r.frozen 1
                            by_cases he : Re = 0
                            · have heb : (Re != 0) = false := by rw [he]; rfl
                              have HE := Lib.hid he
                              clear he
                              go_wp2_with fail
                              (try rw [Exit.noGoto_ret])
                              (try simp only [Exit.inBlock, Exit.then])
                              refine bodyPost_ret (v := .tuple #[.agg #[.int .i64 Rx, .slice A5 n5 c5], .int .i64 Re]) ?hr rfl ?_
                              case hr =>
                                simp only [results, hres]
                                go_simp
                              rw [HAct.out]
                              exact ⟨Rx, A5, n5, c5, rfl, (HS5.out.d.bel.setCell (p := ⟨w.heap.size + 1 + 1, 0, none⟩) (by simp; omega) _).setCell (p := ⟨w.heap.size + 1 + 1, 1, none⟩) (by simp; omega) _, fun h => absurd HE.out h, fun _ => ⟨rfl, l5, (HQ5.out.other HS5.out.d.r 0 _).other (HS5.out.d.r.set_ 0 _) 1 _, HL5.out, HM5.out⟩⟩
                            · have heb : (Re != 0) = true := by rw [bne_iff_ne]; exact he
                              have HE := Lib.hid he
                              clear he
                              go_wp2_with fail
                              (try rw [Exit.noGoto_ret])
                              (try simp only [Exit.inBlock, Exit.then])
                              refine bodyPost_ret (v := .tuple #[.agg #[.int .i64 next, .slice A n c], .int .i64 Re]) ?hr rfl ?_
                              case hr =>
                                simp only [results, hres]
                                go_simp
                              rw [HAct.out]
                              exact ⟨next, A, n, c, rfl, (HS5.out.d.bel.setCell (p := ⟨w.heap.size + 1 + 1, 0, none⟩) (by simp; omega) _).setCell (p := ⟨w.heap.size + 1 + 1, 1, none⟩) (by simp; omega) _, fun _ => ⟨rfl, rfl, rfl, rfl⟩, fun h => absurd h HE.out⟩
                      case mt_9 =>
                        exact AllReadyH.nil
              case mt_6 =>
                exact AllReadyH.nil
set_option maxRecDepth 20000 in
set_option maxHeartbeats 3200000 in
theorem done_k6 (w : World) (hi : Nat) (next : Int) (A : Option Addr) (n c : Nat) (nds : List Nd) (kd xa xb xt : Int) (wd tx : ByteArray) (h : NodesIn w 0 hi A n c nds) (hh : hi ≤ w.heap.size) (hsw : wd.size ≤ maxLen) (hst : tx.size ≤ maxLen) (hf : ∀ nd ∈ nds, Fits 1 nd) (hk : restV kd 7 = 6) :
    Calls Tryz.prog 9 #[.agg #[.int .i64 next, .slice A n c], .agg #[.int .i64 kd, .int .i64 xa, .int .i64 xb, .int .i64 xt, .string wd, .string tx]] w (DonePost w next A n c (actR next nds ⟨kd, xa, xb, xt, wd, tx⟩)) := by
  have hres : Tryz.f9.results = #[.cell 4 26, .tmp 5] := by kernel_rfl
  have hc := h.2.2.1
  have hnc := h.2.1
  have HD0 := Lib.hid (DB.start w next A n c kd xa xb xt wd tx)
  obtain ⟨id, hid⟩ : ∃ id, pickV next nds xa = id := ⟨_, rfl⟩
  obtain ⟨y, hy⟩ : ∃ y, pickV next nds xb = y := ⟨_, rfl⟩
  obtain ⟨ks, hks⟩ : ∃ ks, kidsR next nds y wd = ks := ⟨_, rfl⟩
  have hkl : ks.length ≤ 4096 := by rw [← hks]; exact kidsR_len
  obtain ⟨rl, hrl⟩ : ∃ rl, plR next nds xb wd = rl := ⟨_, rfl⟩
  obtain ⟨ra, hra⟩ : ∃ ra, plA next nds xb xt wd = ra := ⟨_, rfl⟩
  have hrs : rl.size ≤ maxLen := by
    rw [← hrl]
    unfold plR
    split
    · decide
    · exact hsw
  obtain ⟨R, hR⟩ : ∃ R, resR next (chE (aimE next nds wd y) nds id) (chL nds id fun nd => aimN nd wd y) = R := ⟨_, rfl⟩
  have HAct : Hid (actR next nds ⟨kd, xa, xb, xt, wd, tx⟩ = R) := Lib.hid (by
    unfold actR actP
    simp only [hk, hid, hy, hrl, hra]
    exact hR)
  have HPa : Hid (∀ X, Below w.heap.size w X → ∀ z, Calls Tryz.prog 15 #[.agg #[.int .i64 next, .slice A n c], .int .i64 z] X (Ret X (.int .i64 (pickV next nds z)))) := Lib.hid fun X hX z => pick_any X hi next z A n c nds (h.below (hX.mono hh)) (Nat.le_trans hh hX.size)
  have HKi : Hid (∀ X, Below w.heap.size w X → Calls Tryz.prog 17 #[.agg #[.int .i64 next, .slice A n c], .int .i64 y, .string wd] X (ListR X ks)) := Lib.hid fun X hX => hks ▸ kidsQ_any X hi next y wd A n c nds (h.below (hX.mono hh)) (Nat.le_trans hh hX.size)
  obtain ⟨rr, hrr⟩ : ∃ rr, restV xt (ks.length + 1) = rr := ⟨_, rfl⟩
  have HRt : Hid (∀ X, Calls Tryz.prog 16 #[.int .i64 xt, .int .i64 (ks.length + 1)] X fun e w' => e = .returned (.int .i64 rr) ∧ X = w') := Lib.hid fun X => by
    have := rest_any X xt (ks.length + 1) (by omega) (by omega)
    rw [hrr] at this
    exact this
  have HRk : Hid (∀ X, Calls Tryz.prog 16 #[.int .i64 kd, .int .i64 7] X fun e w' => e = .returned (.int .i64 6) ∧ X = w') := Lib.hid fun X => by
    have := rest_any X kd 7 (by omega) (by omega)
    rw [hk] at this
    exact this
  have HRL : Hid ((y = 0 → rl = ⟨#[]⟩ ∧ ra = 0) ∧ (y ≠ 0 → rl = wd ∧ ra = rr)) := Lib.hid (by
    rw [← hrl, ← hra]
    unfold plR plA
    rw [hy, hks, hrr]
    exact ⟨fun h => by rw [if_pos h, if_pos h]; exact ⟨rfl, rfl⟩, fun h => by rw [if_neg h, if_neg h]; exact ⟨rfl, rfl⟩⟩)
  have HCa : Hid (∀ X, Below w.heap.size w X → Calls Tryz.prog 30 #[.agg #[.int .i64 next, .slice A n c], .int .i64 id, .string wd, .int .i64 y] X (TwoOwn X R)) := Lib.hid fun X hX => (aim_any X hi next id A n c nds wd y (h.below (hX.mono hh)) (Nat.le_trans hh hX.size) hsw (fun hrt => ⟨(rightM hrt).rise, by have := (rightM hrt).len; have := h.1; omega, hf, fun nd hnd => (right_sorts hrt nd hnd).2⟩)).mono fun e w' he => hR ▸ two_of he
  have hPid : Hid (pickV next nds xa = id) := Lib.hid hid
  have hPy : Hid (pickV next nds xb = y) := Lib.hid hy
  have HSof : Hid (∀ X, DB w next A n c kd xa xb xt wd tx X → X.cell? ⟨w.heap.size, 0, none⟩ = some (.int .i64 next) ∧ X.cell? ⟨w.heap.size, 1, none⟩ = some (.slice A n c) ∧ X.cell? ⟨w.heap.size + 1, 3, none⟩ = some (.int .i64 xt)) := Lib.hid fun X hX => ⟨(hX.m.cell 0).trans rfl, (hX.m.cell 1).trans rfl, (hX.a.cell 3).trans rfl⟩
  have hkw : IntKind.i64.wrap ((ks.length : Int) + 1) = (ks.length : Int) + 1 := IntWalk.i64_in _ (by omega)
  obtain ⟨Rx, Re, Rn⟩ := R
  clear h hh hf hR hid hy hks hrr hrl hra hrs hsw hst hk hkl hc hnc
  go_enter Tryz.func9, Tryz.ntmps9
  go_upto_region 1 with (fail)
  generalize ((w.alloc (.cells #[.int .i64 next, .slice A n c] 26)).alloc (.cells #[.int .i64 kd, .int .i64 xa, .int .i64 xb, .int .i64 xt, .string wd, .string tx] 32)).alloc (.cells #[.int .i64 0, .slice none 0 0] 26) = X0 at HD0 ⊢
  have q0 := cell_regrown ((HD0.out.m.cell 0).trans (show _ = some (.int .i64 next) from rfl))
  have q1 := cell_regrown ((HD0.out.m.cell 1).trans (show _ = some (.slice A n c) from rfl))
  have q2 := cell_regrown ((HD0.out.a.cell 1).trans (show _ = some (.int .i64 xa) from rfl))
  have q3 := cell_regrown ((HD0.out.a.cell 2).trans (show _ = some (.int .i64 xb) from rfl))
  have HPa1 : Hid (∀ d os, Calls Tryz.prog 15 #[.agg #[.int .i64 next, .slice A n c], .int .i64 xa] (grow (redrawn X0 d) os) (Ret (grow (redrawn X0 d) os) (.int .i64 id))) := Lib.hid fun d os => hPid.out ▸ HPa.out _ (HD0.out.bel.trans ((below_regrown X0 d os).mono HD0.out.bel.size)) xa
  have HPb1 : Hid (∀ d os, Calls Tryz.prog 15 #[.agg #[.int .i64 next, .slice A n c], .int .i64 xb] (grow (redrawn X0 d) os) (Ret (grow (redrawn X0 d) os) (.int .i64 y))) := Lib.hid fun d os => hPy.out ▸ HPa.out _ (HD0.out.bel.trans ((below_regrown X0 d os).mono HD0.out.bel.size)) xb
  refine wp_region_quiet_below (by kernel_rfl) (by kernel_rfl) ?_
  repeat (go_big_quiet_step ((first | (go_at_call_has 15 xa; exact regrown_ret (HPa1.out _ _)) | (go_at_call_has 15 xb; exact regrown_ret (HPb1.out _ _)))))
  refine wpQuiet_nil ?_
  intro _ hw'
  obtain ⟨⟨dq, osq⟩, hw''⟩ := hw'
  subst hw''
  have HX := Lib.hid (HD0.out.after (below_regrown _ dq osq))
  generalize grow (redrawn _ dq) osq = X1 at HX ⊢
  clear q0 q1 q2 q3 HD0
  have c4 := (HX.out.a.cell 4).trans (show _ = some (.string wd) from rfl)
  go_upto_region 3 with (fail)
  clear c4
  replace HX := Lib.hid (HX.out.after (below_drew1 _))
  refine wp_region_held_tail 9 (fun w' => w'.cell? ⟨w.heap.size, 0, none⟩ = some (.int .i64 next) ∧ w'.cell? ⟨w.heap.size, 1, none⟩ = some (.slice A n c) ∧ w'.cell? ⟨w.heap.size + 1, 3, none⟩ = some (.int .i64 xt)) (by kernel_rfl) (by kernel_rfl) ?hSt (fun hHeld => ?qt0)
  case hSt => exact HSof.out _ HX.out
  case qt0 =>
    generalize X1.drew = wz at HX hHeld ⊢
    simp only [List.take_succ_cons, List.take_zero, List.drop_succ_cons, List.drop_zero]
    refine wpAnyH_take (i := 0) (v := (.pointer (some ⟨w.heap.size + 1, 3, none⟩))) rfl (by kernel_rfl) (by kernel_rfl) (by kernel_rfl) (fun _ _ _ h => h) (Or.inl ⟨by rfl, ?yt_1⟩) (by assumption) ?qt_1
    case yt_1 => (intro w hSw; (try dsimp only at hSw); go_simp)
    case qt_1 =>
      (try simp only [Act.put]); (try simp only [List.setIfInBounds_toArray])
      refine wpAnyH_take (i := 1) (v := (.int .i64 xt)) rfl (by kernel_rfl) (by kernel_rfl) (by kernel_rfl) (fun _ _ _ h => h) (Or.inl ⟨by rfl, ?yt_2⟩) (by assumption) ?qt_2
      case yt_2 => (intro w hSw; (try dsimp only at hSw); go_simp)
      case qt_2 =>
        (try simp only [Act.put]); (try simp only [List.setIfInBounds_toArray])
        refine wpAnyH_take (i := 2) (v := (.agg #[.int .i64 next, .slice A n c])) rfl (by kernel_rfl) (by kernel_rfl) (by kernel_rfl) (fun _ _ _ h => h) (Or.inl ⟨by rfl, ?yt_3⟩) (by assumption) ?qt_3
        case yt_3 => (intro w hSw; (try dsimp only at hSw); go_simp)
        case qt_3 =>
          (try simp only [Act.put]); (try simp only [List.setIfInBounds_toArray])
          refine wpAnyH_take (i := 3) (v := (.int .i64 y)) rfl (by kernel_rfl) (by kernel_rfl) (by kernel_rfl) (fun _ _ _ h => h) (Or.inl ⟨by rfl, ?yt_4⟩) (by assumption) ?qt_4
          case yt_4 => (intro w hSw; (try dsimp only at hSw); go_simp)
          case qt_4 =>
            (try simp only [Act.put]); (try simp only [List.setIfInBounds_toArray])
            refine wpAnyH_take (i := 4) (v := (.string wd)) rfl (by kernel_rfl) (by kernel_rfl) (by kernel_rfl) (fun _ _ _ h => h) (Or.inl ⟨by rfl, ?yt_5⟩) (by assumption) ?qt_5
            case yt_5 => (intro w hSw; (try dsimp only at hSw); go_simp)
            case qt_5 =>
              (try simp only [Act.put]); (try simp only [List.setIfInBounds_toArray])
              refine wpAnyH_ready (rs := [5]) (by kernel_rfl) (by simp) ?_
              refine AllReadyH.cons rfl (fun K hK => ?st_6) ?mt_6
              case st_6 =>
                (refine step_call _ (by rfl) 17 #[.agg #[.int .i64 next, .slice A n c], .int .i64 y, .string wd] (by go_simp) (HKi.out _ HX.out.bel) ?_; rintro e Yb ⟨v, rfl, hvk, hbb⟩; obtain ⟨Ak, ck, hke⟩ := own_form hvk; subst hke; refine ⟨_, rfl, ?_⟩; replace HX := Lib.hid (HX.out.after hbb); clear hbb hvk)
                refine hK.out _ _ ?kt_6 (fun hHeld => ?qt_6)
                case kt_6 => ((try dsimp only); exact HSof.out _ HX.out)
                case qt_6 =>
                  clear hK K
                  (try simp only [Act.put]); (try simp only [List.setIfInBounds_toArray])
                  refine wpAnyH_take (i := 6) (v := (.int .i64 ks.length)) rfl (by kernel_rfl) (by kernel_rfl) (by kernel_rfl) (fun _ _ _ h => h) (Or.inl ⟨by rfl, ?yt_7⟩) (by assumption) ?qt_7
                  case yt_7 => (intro w hSw; (try dsimp only at hSw); go_simp)
                  case qt_7 =>
                    (try simp only [Act.put]); (try simp only [List.setIfInBounds_toArray])
                    refine wpAnyH_take (i := 7) (v := (.int .i64 (ks.length + 1))) rfl (by kernel_rfl) (by kernel_rfl) (by kernel_rfl) (fun _ _ _ h => h) (Or.inl ⟨by rfl, ?yt_8⟩) (by assumption) ?qt_8
                    case yt_8 => (intro w hSw; (try dsimp only at hSw); go_simp)
                    case qt_8 =>
                      (try simp only [Act.put]); (try simp only [List.setIfInBounds_toArray])
                      refine wpAnyH_ready (rs := [8]) (by kernel_rfl) (by simp) ?_
                      refine AllReadyH.cons rfl (fun K hK => ?st_9) ?mt_9
                      case st_9 =>
                        (refine step_call _ (by rfl) 16 #[.int .i64 xt, .int .i64 (ks.length + 1)] (by go_simp) (HRt.out _) ?_; rintro e Yc ⟨rfl, rfl⟩; refine ⟨_, rfl, ?_⟩)
                        refine hK.out _ _ ?kt_9 (fun hHeld => ?qt_9)
                        case kt_9 => ((try dsimp only); exact HSof.out _ HX.out)
                        case qt_9 =>
                          clear hK K
                          (try simp only [Act.put]); (try simp only [List.setIfInBounds_toArray])
                          refine wpAnyH_done (by kernel_rfl) ?_ _
                          show wpList _ _ _ _ _ _
                          clear hHeld
                          go_upto_if 32 with (fail)
                          rename World => X2
                          go_cut [8, 9] (fun s8 s9 wx => s8 = .string rl ∧ s9 = .int .i64 ra ∧ X2 = wx)
                          case first =>
                            by_cases hy0 : y = 0
                            · have hyb : (y == 0) = true := by rw [beq_iff_eq]; exact hy0
                              have HYL := Lib.hid (HRL.out.1 hy0)
                              clear hy0
                              go_wp2_with fail
                              go_meet
                              exact ⟨by rw [HYL.out.1], by rw [HYL.out.2], rfl⟩
                            · have hyb : (y == 0) = false := by rw [beq_eq_false_iff_ne]; exact hy0
                              have HYL := Lib.hid (HRL.out.2 hy0)
                              clear hy0
                              go_wp2_with fail
                              go_meet
                              exact ⟨by rw [HYL.out.1], by rw [HYL.out.2], rfl⟩
                          case rest =>
                            obtain ⟨rfl, rfl, rfl⟩ := hcut
                            have m0 := (HX.out.m.cell 0).trans (show _ = some (.int .i64 next) from rfl)
                            have m1 := (HX.out.m.cell 1).trans (show _ = some (.slice A n c) from rfl)
                            have a0 := (HX.out.a.cell 0).trans (show _ = some (.int .i64 kd) from rfl)
                            have HO := Lib.hid (HX.out.more next A n c)
                            go_upto_region 7 with (fail)
                            generalize X2.alloc (.cells #[.int .i64 next, .slice A n c] 26) = X3 at HO ⊢
                            generalize X2.heap.size = go at HO ⊢
                            clear m0 m1 a0
                            have m0 := (HO.out.d.m.cell 0).trans (show _ = some (.int .i64 next) from rfl)
                            have m1 := (HO.out.d.m.cell 1).trans (show _ = some (.slice A n c) from rfl)
                            have a0 := (HO.out.d.a.cell 0).trans (show _ = some (.int .i64 kd) from rfl)
                            have a4 := (HO.out.d.a.cell 4).trans (show _ = some (.string wd) from rfl)
                            have a5 := (HO.out.d.a.cell 5).trans (show _ = some (.string tx) from rfl)
                            have o0 := (HO.out.out.cell 0).trans (show _ = some (.int .i64 next) from rfl)
                            have o1 := (HO.out.out.cell 1).trans (show _ = some (.slice A n c) from rfl)
                            have o2 := HO.out.out.frozen 0
                            have o3 := HO.out.out.frozen 1
                            go_upto_region 20 with (first | (go_at_call 16; (with_reducible refine (HRk.out _).mono ?_); go_must (rintro e wk ⟨rfl, rfl⟩)) | (go_at_call 30; (with_reducible refine (HCa.out _ HO.out.d.bel).mono ?_); go_must (rintro e w5 ⟨A5, n5, c5, l5, rfl, ho5, hl5, hm5, hb5⟩; replace ho5 := ho5.mono HO.out.d.bel.size; have hO5 := HO.out.after hb5; have hs5 := hO5.set Rx A5 n5 c5; have hq5 := (ho5.other hO5.out 0 (.int .i64 Rx)).other (hO5.out.set_ 0 _) 1 (.slice A5 n5 c5); have p0 := (hO5.out.cell 0).trans (show _ = some (.int .i64 next) from rfl); have p1 := (hO5.out.cell 1).trans (show _ = some (.slice A n c) from rfl); have p2 := hO5.out.frozen 0; have p3 := hO5.out.frozen 1; have HS5 := Lib.hid hs5; have HQ5 := Lib.hid hq5; have HL5 := Lib.hid hl5; have HM5 := Lib.hid hm5; clear ho5 hO5 hs5 hq5 hl5 hm5 hb5)))
                            generalize (w5.setCell ⟨go, 0, none⟩ (.int .i64 Rx)).setCell ⟨go, 1, none⟩ (.slice A5 n5 c5) = Y at HS5 HQ5 ⊢
                            clear m0 m1 a0 a4 a5 o0 o1 o2 o3 p0 p1 p2 p3 HO
                            have y0 := (HS5.out.out.cell 0).trans (show _ = some (.int .i64 Rx) from rfl)
                            have y1 := (HS5.out.out.cell 1).trans (show _ = some (.slice A5 n5 c5) from rfl)
                            have m0 := (HS5.out.d.m.cell 0).trans (show _ = some (.int .i64 next) from rfl)
                            have m1 := (HS5.out.d.m.cell 1).trans (show _ = some (.slice A n c) from rfl)
                            have r0 : Y.cell? ⟨w.heap.size + 1 + 1, 0, none⟩ = some (.int .i64 0) := (HS5.out.d.r.cell 0).trans rfl
                            have r1 : Y.cell? ⟨w.heap.size + 1 + 1, 1, none⟩ = some (.slice none 0 0) := (HS5.out.d.r.cell 1).trans rfl
                            have r2 : Y.frozen? ⟨w.heap.size + 1 + 1, 0, none⟩ = false := HS5.out.d.r.frozen 0
                            have r3 : Y.frozen? ⟨w.heap.size + 1 + 1, 1, none⟩ = false := HS5.out.d.r.frozen 1
                            by_cases he : Re = 0
                            · have heb : (Re != 0) = false := by rw [he]; rfl
                              have HE := Lib.hid he
                              clear he
                              go_wp2_with fail
                              (try rw [Exit.noGoto_ret])
                              (try simp only [Exit.inBlock, Exit.then])
                              refine bodyPost_ret (v := .tuple #[.agg #[.int .i64 Rx, .slice A5 n5 c5], .int .i64 Re]) ?hr rfl ?_
                              case hr =>
                                simp only [results, hres]
                                go_simp
                              rw [HAct.out]
                              exact ⟨Rx, A5, n5, c5, rfl, (HS5.out.d.bel.setCell (p := ⟨w.heap.size + 1 + 1, 0, none⟩) (by simp; omega) _).setCell (p := ⟨w.heap.size + 1 + 1, 1, none⟩) (by simp; omega) _, fun h => absurd HE.out h, fun _ => ⟨rfl, l5, (HQ5.out.other HS5.out.d.r 0 _).other (HS5.out.d.r.set_ 0 _) 1 _, HL5.out, HM5.out⟩⟩
                            · have heb : (Re != 0) = true := by rw [bne_iff_ne]; exact he
                              have HE := Lib.hid he
                              clear he
                              go_wp2_with fail
                              (try rw [Exit.noGoto_ret])
                              (try simp only [Exit.inBlock, Exit.then])
                              refine bodyPost_ret (v := .tuple #[.agg #[.int .i64 next, .slice A n c], .int .i64 Re]) ?hr rfl ?_
                              case hr =>
                                simp only [results, hres]
                                go_simp
                              rw [HAct.out]
                              exact ⟨next, A, n, c, rfl, (HS5.out.d.bel.setCell (p := ⟨w.heap.size + 1 + 1, 0, none⟩) (by simp; omega) _).setCell (p := ⟨w.heap.size + 1 + 1, 1, none⟩) (by simp; omega) _, fun _ => ⟨rfl, rfl, rfl, rfl⟩, fun h => absurd h HE.out⟩
                      case mt_9 =>
                        exact AllReadyH.nil
              case mt_6 =>
                exact AllReadyH.nil
def Ac.v (x : Ac) : Value := .agg #[.int .i64 x.kind, .int .i64 x.a, .int .i64 x.b, .int .i64 x.at_, .string x.word, .string x.text]
/-- what done answers, of any act -/
theorem done_any (w : World) (hi : Nat) (next : Int) (A : Option Addr) (n c : Nat) (nds : List Nd) (x : Ac) (h : NodesIn w 0 hi A n c nds) (hh : hi ≤ w.heap.size) (hsw : x.word.size ≤ maxLen) (hst : x.text.size ≤ maxLen) (hf : ∀ nd ∈ nds, Fits 1 nd) :
    Calls Tryz.prog 9 #[.agg #[.int .i64 next, .slice A n c], x.v] w (DonePost w next A n c (actR next nds x)) := by
  obtain ⟨kd, xa, xb, xt, wd, tx⟩ := x
  have hlt := restV_lt kd (n := 7) (by decide)
  have h7 : restV kd 7 = 0 ∨ restV kd 7 = 1 ∨ restV kd 7 = 2 ∨ restV kd 7 = 3 ∨ restV kd 7 = 4 ∨ restV kd 7 = 5 ∨ restV kd 7 = 6 := by omega
  rcases h7 with h0 | h0 | h0 | h0 | h0 | h0 | h0
  · exact done_k0 w hi next A n c nds kd xa xb xt wd tx h hh hsw hst hf h0
  · exact done_k1 w hi next A n c nds kd xa xb xt wd tx h hh hsw hst hf h0
  · exact done_k2 w hi next A n c nds kd xa xb xt wd tx h hh hsw hst hf h0
  · exact done_k3 w hi next A n c nds kd xa xb xt wd tx h hh hsw hst hf h0
  · exact done_k4 w hi next A n c nds kd xa xb xt wd tx h hh hsw hst hf h0
  · exact done_k5 w hi next A n c nds kd xa xb xt wd tx h hh hsw hst hf h0
  · exact done_k6 w hi next A n c nds kd xa xb xt wd tx h hh hsw hst hf h0
end Go.Proofs.YtbkmdlfenbfdlaaGreat

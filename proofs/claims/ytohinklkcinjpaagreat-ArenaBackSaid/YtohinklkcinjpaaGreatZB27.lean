/-
  WALKS: what is added and taken away again, and what is moved away and back, leaves the model as it was.
-/
import Derived.Test.YtohinklkcinjpaaGreatZB26
import Derived.Deep.RegionHeld3
import Derived.Deep.CutBlock
namespace Go.Proofs.YtohinklkcinjpaaGreat
open Go Go.RowKit Go.Sort
set_option linter.unusedVariables false
attribute [local go_sem ↓] Go.wp_at_zero Go.wp_at_succ
theorem pick_of {next : Int} {nds : List Nd} (h : TM next nds) (x : Int) : pickV next nds x = 0 ∨ ∃ nd, ndOf nds (pickV next nds x) = some nd := by
  unfold pickV
  rw [List.getD_eq_getElem?_getD]
  cases hg : (orderR next nds)[restV x ((orderR next nds).length + 1)]? with
  | none => exact .inl rfl
  | some y =>
    refine .inr (order_mem (rightM h.right) ?_)
    have := List.mem_of_getElem? hg
    unfold orderR at this
    rwa [if_pos h.right] at this
theorem name_size : ∀ l : List UInt8, nameL l = true → l.length ≤ 32
  | [], _ => by simp
  | c :: r, h => by
    simp only [nameL, Bool.and_eq_true, decide_eq_true_eq] at h
    rw [List.length_cons]; have := h.1.1; omega
theorem word_size {s : ByteArray} (h : wordB s = true) : s.size ≤ 33 := by
  unfold wordB wordL at h
  have h1 := name_size _ h
  rw [← toList_eq]
  unfold stripL at h1
  split at h1
  · rename_i e; rw [e]; simp
  · rename_i c r e
    rw [e, List.length_cons]
    split at h1
    · omega
    · rw [List.length_cons] at h1; omega
theorem TM.shortN {next : Int} {nds : List Nd} (h : TM next nds) : ∀ nd ∈ nds, ShortN nd := fun nd hnd => by
  have hi := h.hi
  have hs := word_size (h.sp nd hnd).con
  rcases h.par nd hnd with ⟨h0, hr⟩ | ⟨h0, hw, p, hpm, hpi, _⟩
  · refine ⟨hs, ?_, by omega, by omega⟩
    have : nd.role = ⟨#[]⟩ := str_eq.1 (hr.trans (by rw [toList_data]))
    rw [this]; decide
  · have := h.ids p hpm
    exact ⟨hs, word_size hw, by omega, by omega⟩
/-- what Add answers -/
theorem add_res {w w' : World} {next : Int} {nds : List Nd} {parent at_ : Int} {role con : ByteArray} {e : Ending} (h : AddPost w next nds parent role at_ con e w') :
    ∃ (i : Int) (A : Option Addr) (m c : Nat) (l : List (Nd × Leaf)), e = .returned (.tuple #[.agg #[.int .i64 (resR (next + 1) (addE next nds parent role at_ con) (addL next nds parent role con (admV next nds parent role at_ 1 1).1.toNat)).1, .slice A m c], .int .i64 i, .int .i64 (addE next nds parent role at_ con)]) ∧ OwnM w' w.heap.size (.slice A m c) l ∧ l.length = m ∧ Below w.heap.size w w' ∧
      (addE next nds parent role at_ con = 0 → i = next ∧ l.map (·.1) = addL next nds parent role con (admV next nds parent role at_ 1 1).1.toNat) := by
  obtain ⟨hb, ⟨h0, he⟩ | ⟨h0, A, c, l, he, ho, hm⟩⟩ := h
  · unfold resR
    rw [if_neg h0]
    exact ⟨0, none, 0, 0, [], he, ownM_nil _ _, rfl, hb, fun h => absurd h h0⟩
  · unfold resR
    rw [if_pos h0]
    rw [h0]
    refine ⟨next, A, nds.length + 1, c, l, he, ho, ?_, hb, fun _ => ⟨rfl, hm⟩⟩
    have h1 := congrArg List.length hm
    rw [List.length_map] at h1
    rw [h1]
    unfold addL
    split <;> simp
/-- the boxes of the act and of the model -/
structure F3 (w : World) (ac : Array Value) (g5 : Nat) (next : Int) (nds : List Nd) (A : Option Addr) (n c : Nat) (l : List (Nd × Leaf)) (X : World) : Prop where
  a : Blk X w.heap.size 32 ac
  m : Blk X g5 26 #[.int .i64 next, .slice A n c]
  om : OwnM X w.heap.size (.slice A n c) l
  lm : l.length = n
  mm : l.map (·.1) = nds
  bel : Below w.heap.size w X
section
variable {w X X' : World} {ac : Array Value} {g5 : Nat} {next : Int} {nds : List Nd} {A : Option Addr} {n c : Nat} {l : List (Nd × Leaf)}
theorem F3.after (h : F3 w ac g5 next nds A n c l X) (hb : Below X.heap.size X X') : F3 w ac g5 next nds A n c l X' := ⟨h.a.after hb, h.m.after hb, h.om.after hb, h.lm, h.mm, h.bel.trans (hb.mono h.bel.size)⟩
theorem F3.nm (h : F3 w ac g5 next nds A n c l X) : NodesIn X 0 X.heap.size A n c nds := by
  rw [← h.mm]; exact (h.om.nodesIn h.lm).mono (Nat.zero_le _) (Nat.le_refl _)
theorem F3.far (h : F3 w ac g5 next nds A n c l X) {g : Nat} {cs : Array Value} (hg : Blk X g 26 cs) (hne : g5 ≠ g) (hle : w.heap.size ≤ g) (i : Nat) (u : Value) : F3 w ac g5 next nds A n c l (X.setCell ⟨g, i, none⟩ u) :=
  ⟨h.a.far (p := ⟨g, i, none⟩) (h.a.ne_ hg (by decide)) u, h.m.far (p := ⟨g, i, none⟩) hne u, h.om.other hg i u, h.lm, h.mm, h.bel.setCell (p := ⟨g, i, none⟩) hle u⟩
end
/-- .. with the box of the node, its parent's kids, and the model that was moved in -/
structure BT (w : World) (ac : Array Value) (g5 : Nat) (next : Int) (nds : List Nd) (A : Option Addr) (n c : Nat) (l : List (Nd × Leaf)) (g15 : Nat) (cs15 : Array Value) (AL : Option Addr) (cL : Nat) (L : List Int) (g19 : Nat) (A7 : Option Addr) (n7 c7 : Nat) (z : List Nd) (X : World) : Prop where
  f : F3 w ac g5 next nds A n c l X
  nb : Blk X g15 41 cs15
  lr : X.ownsRow 0 3 1 (.slice AL L.length cL) L.length (intCells L)
  zb : Blk X g19 26 #[.int .i64 next, .slice A7 n7 c7]
  zn : ∃ l7, OwnM X 0 (.slice A7 n7 c7) l7 ∧ l7.length = n7 ∧ l7.map (·.1) = z
section
variable {w X X' : World} {ac : Array Value} {g5 : Nat} {next : Int} {nds : List Nd} {A : Option Addr} {n c : Nat} {l : List (Nd × Leaf)} {g15 : Nat} {cs15 : Array Value} {AL : Option Addr} {cL : Nat} {L : List Int} {g19 : Nat} {A7 : Option Addr} {n7 c7 : Nat} {z : List Nd}
theorem BT.after (h : BT w ac g5 next nds A n c l g15 cs15 AL cL L g19 A7 n7 c7 z X) (hb : Below X.heap.size X X') : BT w ac g5 next nds A n c l g15 cs15 AL cL L g19 A7 n7 c7 z X' := by
  obtain ⟨l7, z1, z2, z3⟩ := h.zn
  exact ⟨h.f.after hb, h.nb.after hb, own_after h.lr hb, h.zb.after hb, l7, z1.after hb, z2, z3⟩
theorem BT.far (h : BT w ac g5 next nds A n c l g15 cs15 AL cL L g19 A7 n7 c7 z X) {g : Nat} {cs : Array Value} (hg : Blk X g 26 cs) (hne : g5 ≠ g) (hne2 : g19 ≠ g) (hle : w.heap.size ≤ g) (i : Nat) (u : Value) : BT w ac g5 next nds A n c l g15 cs15 AL cL L g19 A7 n7 c7 z (X.setCell ⟨g, i, none⟩ u) := by
  obtain ⟨l7, z1, z2, z3⟩ := h.zn
  exact ⟨h.f.far hg hne hle i u, h.nb.far (p := ⟨g, i, none⟩) (h.nb.ne_ hg (by decide)) u, own_other h.lr hg (by decide) i u, h.zb.far (p := ⟨g, i, none⟩) hne2 u, l7, z1.other hg i u, z2, z3⟩
theorem BT.nz (h : BT w ac g5 next nds A n c l g15 cs15 AL cL L g19 A7 n7 c7 z X) : NodesIn X 0 X.heap.size A7 n7 c7 z := by
  obtain ⟨l7, z1, z2, z3⟩ := h.zn
  rw [← z3]; exact (z1.nodesIn z2).mono (Nat.zero_le _) (Nat.le_refl _)
end
set_option maxRecDepth 20000 in
set_option maxHeartbeats 3200000 in
theorem back_law (w : World) (hi : Nat) (Aa : Option Addr) (na ca : Nat) (acts : List Ac) (x : Ac) (h : ActsIn w hi Aa na ca acts) (hh : hi ≤ w.heap.size) (hx : SzA x) :
    Calls Tryz.prog 4 #[.slice Aa na ca, .agg #[.int .i64 x.kind, .int .i64 x.a, .int .i64 x.b, .int .i64 x.at_, .string x.word, .string x.text]] w (Ret w (.bool true)) := by
  obtain ⟨s, hs⟩ : ∃ s, builtV acts = s := ⟨_, rfl⟩
  have hok : Okay 150 s := hs ▸ built_okay acts
  have HBu : Hid (∀ X, Below w.heap.size w X → Calls Tryz.prog 14 #[.slice Aa na ca] X (BuiltPost X s)) := Lib.hid fun X hX => hs ▸ built_any X hi Aa na ca acts (h.below (hX.mono hh)) (Nat.le_trans hh hX.size)
  obtain ⟨next, nds⟩ := s
  have htm : TM next nds := hok.tm
  have hfits := hok.fits (by decide)
  try simp only at hfits
  have hR := rightM htm.right
  have hb0 := below_box w (.cells #[.int .i64 x.kind, .int .i64 x.a, .int .i64 x.b, .int .i64 x.at_, .string x.word, .string x.text] 32)
  have HB0 : Hid (Blk (w.alloc (.cells #[.int .i64 x.kind, .int .i64 x.a, .int .i64 x.b, .int .i64 x.at_, .string x.word, .string x.text] 32)) w.heap.size 32 x.cells ∧ Below w.heap.size w (w.alloc (.cells #[.int .i64 x.kind, .int .i64 x.a, .int .i64 x.b, .int .i64 x.at_, .string x.word, .string x.text] 32))) := Lib.hid ⟨Blk.new _ _ _, hb0⟩
  obtain ⟨id, hid⟩ : ∃ id, pickV next nds x.a = id := ⟨_, rfl⟩
  obtain ⟨y, hy⟩ : ∃ y, pickV next nds x.b = y := ⟨_, rfl⟩
  have hyk : y ≠ 0 → ∃ q, ndOf nds y = some q := fun h0 => (hy ▸ pick_of htm x.b).resolve_left h0
  have hik : id = 0 ∨ ∃ nd, ndOf nds id = some nd := hid ▸ pick_of htm x.a
  obtain ⟨ks, hks⟩ : ∃ ks, kidsR next nds y x.word = ks := ⟨_, rfl⟩
  have hkl : ks.length ≤ 4096 := by rw [← hks]; exact kidsR_len
  obtain ⟨rl, hrl⟩ : ∃ rl, plR next nds x.b x.word = rl := ⟨_, rfl⟩
  obtain ⟨ra, hra⟩ : ∃ ra, plA next nds x.b x.at_ x.word = ra := ⟨_, rfl⟩
  have hrs : rl.size ≤ maxLen := by
    rw [← hrl]
    unfold plR
    split
    · decide
    · exact hx.1
  have HPa : Hid (∀ A n c X, NodesIn X 0 X.heap.size A n c nds → ∀ z, Calls Tryz.prog 15 #[.agg #[.int .i64 next, .slice A n c], .int .i64 z] X (Ret X (.int .i64 (pickV next nds z)))) := Lib.hid fun A n c X hX z => pick_any X X.heap.size next z A n c nds hX (Nat.le_refl _)
  have HKi : Hid (∀ A n c X, NodesIn X 0 X.heap.size A n c nds → Calls Tryz.prog 17 #[.agg #[.int .i64 next, .slice A n c], .int .i64 y, .string x.word] X (ListR X ks)) := Lib.hid fun A n c X hX => hks ▸ kidsQ_any X X.heap.size next y x.word A n c nds hX (Nat.le_refl _)
  obtain ⟨rr, hrr⟩ : ∃ rr, restV x.at_ (ks.length + 1) = rr := ⟨_, rfl⟩
  have HRt : Hid (∀ X, Calls Tryz.prog 16 #[.int .i64 x.at_, .int .i64 (ks.length + 1)] X fun e w' => e = .returned (.int .i64 rr) ∧ X = w') := Lib.hid fun X => by
    have := rest_any X x.at_ (ks.length + 1) (by omega) (by omega)
    rw [hrr] at this
    exact this
  have HRL : Hid ((y = 0 → rl = ⟨#[]⟩ ∧ ra = 0) ∧ (y ≠ 0 → rl = x.word ∧ ra = rr)) := Lib.hid (by
    rw [← hrl, ← hra]
    unfold plR plA
    rw [hy, hks, hrr]
    exact ⟨fun h => by rw [if_pos h, if_pos h]; exact ⟨rfl, rfl⟩, fun h => by rw [if_neg h, if_neg h]; exact ⟨rfl, rfl⟩⟩)
  have HOkA : Hid (addE next nds y rl ra ⟨#[78, 111, 100, 101]⟩ = 0 → Okay 151 (next + 1, addL next nds y rl ⟨#[78, 111, 100, 101]⟩ (admV next nds y rl ra 1 1).1.toNat)) := Lib.hid fun h0 => by
    have h1 := (hok.step { x with kind := 0 }).1
    have e : actR next nds { x with kind := 0 } = (next + 1, 0, addL next nds y rl ⟨#[78, 111, 100, 101]⟩ (admV next nds y rl ra 1 1).1.toNat) := by
      unfold actR actP
      have e0 : restV 0 7 = 0 := by decide
      simp only [e0, hy, hrl, hra]
      rw [if_pos (by decide)]
      unfold resR
      rw [if_pos h0]
    unfold stepM at h1
    simp only [e] at h1
    exact h1
  have HOkM : Hid (moveE next nds id y rl ra = 0 → Okay 151 (next, moveL next nds id y rl ra)) := Lib.hid fun h0 => by
    have h1 := (hok.step { x with kind := 2 }).1
    have e : actR next nds { x with kind := 2 } = (next, 0, moveL next nds id y rl ra) := by
      unfold actR actP
      have e0 : restV 2 7 = 2 := by decide
      simp only [e0, hid, hy, hrl, hra]
      rw [if_neg (by decide), if_pos trivial]
      unfold resR
      rw [if_pos h0]
    unfold stepM at h1
    simp only [e] at h1
    exact h1
  have HAd : Hid (∀ A n c X, NodesIn X 0 X.heap.size A n c nds → Calls Tryz.prog 18 #[.agg #[.int .i64 next, .slice A n c], .int .i64 y, .string rl, .int .i64 ra, .string ⟨#[78, 111, 100, 101]⟩] X (AddPost X next nds y rl ra ⟨#[78, 111, 100, 101]⟩)) := Lib.hid fun A n c X hX => add_any X X.heap.size next y ra rl ⟨#[78, 111, 100, 101]⟩ A n c nds hX (Nat.le_refl _) hrs (by decide) hfits
  have HFi : Hid (∀ A n c X, NodesIn X 0 X.heap.size A n c nds → Calls Tryz.prog 13 #[.agg #[.int .i64 next, .slice A n c], .int .i64 id] X (FindIs X (findV next nds id))) := Lib.hid fun A n c X hX => find_any' X X.heap.size next id A n c nds hX (Nat.le_refl _) hfits
  have HMv : Hid (∀ A n c X, NodesIn X 0 X.heap.size A n c nds → Calls Tryz.prog 21 #[.agg #[.int .i64 next, .slice A n c], .int .i64 id, .int .i64 y, .string rl, .int .i64 ra] X (TwoOwn X (resR next (moveE next nds id y rl ra) (moveL next nds id y rl ra)))) := Lib.hid fun A n c X hX => (move_any X X.heap.size next id y ra rl A n c nds hX (Nat.le_refl _) hrs hfits).mono fun e w' he => two_of he
  have hPid : Hid (pickV next nds x.a = id) := Lib.hid hid
  have hPy : Hid (pickV next nds x.b = y) := Lib.hid hy
  have HTM := Lib.hid htm
  have HYK := Lib.hid hyk
  have HIK := Lib.hid hik
  have hkw : IntKind.i64.wrap ((ks.length : Int) + 1) = (ks.length : Int) + 1 := IntWalk.i64_in _ (by omega)
  clear hb0 h hh hx hs hok hfits hR hid hy hyk hik hks hkl hrl hra hrs hrr htm
  go_enter Tryz.func4, Tryz.ntmps4
  go_upto_region 3 with (go_at_call 7; (with_reducible refine (awake_any _).mono ?_); go_must (rintro e w1 ⟨rfl, hb1⟩; have HB1 := Lib.hid (show Blk w1 w.heap.size 32 x.cells ∧ Below w.heap.size w w1 from ⟨HB0.out.1.after hb1, HB0.out.2.trans (hb1.mono HB0.out.2.size)⟩); clear hb1 HB0))
  go_upto_region 4 with (go_at_call 14; (with_reducible refine (HBu.out _ HB1.out.2).mono ?_); go_must (rintro e w2 ⟨A, n, c, l, rfl, ho2, hl2, hm2, hb2⟩; have hbx := below_box w2 (.cells #[.int .i64 next, .slice A n c] 26); have HX : Hid (F3 w x.cells w2.heap.size next nds A n c l (w2.alloc (.cells #[.int .i64 next, .slice A n c] 26))) := Lib.hid ⟨(HB1.out.1.after hb2).after hbx, Blk.new _ _ _, (ho2.mono HB1.out.2.size).after hbx, hl2, hm2, (HB1.out.2.trans (hb2.mono HB1.out.2.size)).trans (hbx.mono (Nat.le_trans HB1.out.2.size hb2.size))⟩; clear ho2 hl2 hm2 hb2 hbx HB1))
  try simp only at HX
  generalize w2.alloc (.cells #[.int .i64 next, .slice A n c] 26) = X0 at HX ⊢
  generalize w2.heap.size = g5 at HX ⊢
  have q0 := cell_regrown ((HX.out.m.cell 0).trans (show _ = some (.int .i64 next) from rfl))
  have q1 := cell_regrown ((HX.out.m.cell 1).trans (show _ = some (.slice A n c) from rfl))
  have q2 := cell_regrown ((HX.out.a.cell 1).trans (show _ = some (.int .i64 x.a) from rfl))
  have q3 := cell_regrown ((HX.out.a.cell 2).trans (show _ = some (.int .i64 x.b) from rfl))
  have HPa1 : Hid (∀ d os, Calls Tryz.prog 15 #[.agg #[.int .i64 next, .slice A n c], .int .i64 x.a] (grow (redrawn X0 d) os) (Ret (grow (redrawn X0 d) os) (.int .i64 id))) := Lib.hid fun d os => hPid.out ▸ HPa.out _ _ _ _ (HX.out.after (below_regrown X0 d os)).nm x.a
  have HPb1 : Hid (∀ d os, Calls Tryz.prog 15 #[.agg #[.int .i64 next, .slice A n c], .int .i64 x.b] (grow (redrawn X0 d) os) (Ret (grow (redrawn X0 d) os) (.int .i64 y))) := Lib.hid fun d os => hPy.out ▸ HPa.out _ _ _ _ (HX.out.after (below_regrown X0 d os)).nm x.b
  refine wp_region_quiet_below (by kernel_rfl) (by kernel_rfl) ?_
  repeat (go_big_quiet_step ((first | (go_at_call_has 15 x.a; exact regrown_ret (HPa1.out _ _)) | (go_at_call_has 15 x.b; exact regrown_ret (HPb1.out _ _)) | (go_at_call 15; first | exact regrown_ret (HPa1.out _ _) | exact regrown_ret (HPb1.out _ _)))))
  refine wpQuiet_nil ?_
  intro _ hw'
  obtain ⟨⟨dq, osq⟩, hw''⟩ := hw'
  subst hw''
  replace HX := Lib.hid (HX.out.after (below_regrown _ dq osq))
  generalize grow (redrawn _ dq) osq = X1 at HX ⊢
  clear q0 q1 q2 q3 HPa1 HPb1 HPa hPid hPy
  have c4 := (HX.out.a.cell 4).trans (show _ = some (.string x.word) from rfl)
  go_upto_region 6 with (fail)
  clear c4
  replace HX := Lib.hid (HX.out.after (below_drew1 _))
  have HSof : Hid (∀ X, F3 w x.cells g5 next nds A n c l X → X.cell? ⟨w.heap.size, 3, none⟩ = some (.int .i64 x.at_) ∧ X.cell? ⟨g5, 0, none⟩ = some (.int .i64 next) ∧ X.cell? ⟨g5, 1, none⟩ = some (.slice A n c)) := Lib.hid fun X hX => ⟨(hX.a.cell 3).trans rfl, (hX.m.cell 0).trans rfl, (hX.m.cell 1).trans rfl⟩
  refine wp_region_held_tail 9 (fun w' => w'.cell? ⟨w.heap.size, 3, none⟩ = some (.int .i64 x.at_) ∧ w'.cell? ⟨g5, 0, none⟩ = some (.int .i64 next) ∧ w'.cell? ⟨g5, 1, none⟩ = some (.slice A n c)) (by kernel_rfl) (by kernel_rfl) ?hSt (fun hHeld => ?qt0)
  case hSt => exact HSof.out _ HX.out
  case qt0 =>
    generalize X1.drew = wz at HX hHeld ⊢
    simp only [List.take_succ_cons, List.take_zero, List.drop_succ_cons, List.drop_zero]
    refine wpAnyH_take (i := 0) (v := (.pointer (some ⟨w.heap.size, 3, none⟩))) rfl (by kernel_rfl) (by kernel_rfl) (by kernel_rfl) (fun _ _ _ h => h) (Or.inl ⟨by rfl, ?yt_1⟩) (by assumption) ?qt_1
    case yt_1 => (intro w hSw; (try dsimp only at hSw); go_simp)
    case qt_1 =>
      (try simp only [Act.put]); (try simp only [List.setIfInBounds_toArray])
      refine wpAnyH_take (i := 1) (v := (.int .i64 x.at_)) rfl (by kernel_rfl) (by kernel_rfl) (by kernel_rfl) (fun _ _ _ h => h) (Or.inl ⟨by rfl, ?yt_2⟩) (by assumption) ?qt_2
      case yt_2 => (intro w hSw; (try dsimp only at hSw); go_simp)
      case qt_2 =>
        (try simp only [Act.put]); (try simp only [List.setIfInBounds_toArray])
        refine wpAnyH_take (i := 2) (v := (.agg #[.int .i64 next, .slice A n c])) rfl (by kernel_rfl) (by kernel_rfl) (by kernel_rfl) (fun _ _ _ h => h) (Or.inl ⟨by rfl, ?yt_3⟩) (by assumption) ?qt_3
        case yt_3 => (intro w hSw; (try dsimp only at hSw); go_simp)
        case qt_3 =>
          (try simp only [Act.put]); (try simp only [List.setIfInBounds_toArray])
          refine wpAnyH_take (i := 3) (v := (.int .i64 y)) rfl (by kernel_rfl) (by kernel_rfl) (by kernel_rfl) (fun _ _ _ h => h) (Or.inl ⟨by rfl, ?yt_4⟩) (by assumption) ?qt_4
          case yt_4 => (intro w hSw; (try dsimp only at hSw); go_simp)
          case qt_4 =>
            (try simp only [Act.put]); (try simp only [List.setIfInBounds_toArray])
            refine wpAnyH_take (i := 4) (v := (.string x.word)) rfl (by kernel_rfl) (by kernel_rfl) (by kernel_rfl) (fun _ _ _ h => h) (Or.inl ⟨by rfl, ?yt_5⟩) (by assumption) ?qt_5
            case yt_5 => (intro w hSw; (try dsimp only at hSw); go_simp)
            case qt_5 =>
              (try simp only [Act.put]); (try simp only [List.setIfInBounds_toArray])
              refine wpAnyH_ready (rs := [5]) (by kernel_rfl) (by simp) ?_
              refine AllReadyH.cons rfl (fun K hK => ?st_6) ?mt_6
              case st_6 =>
                (refine step_call _ (by rfl) 17 #[.agg #[.int .i64 next, .slice A n c], .int .i64 y, .string x.word] (by go_simp) (HKi.out _ _ _ _ HX.out.nm) ?_; rintro e Yb ⟨v, rfl, hvk, hbb⟩; obtain ⟨Ak, ck, hke⟩ := own_form hvk; subst hke; refine ⟨_, rfl, ?_⟩; replace HX := Lib.hid (HX.out.after hbb); clear hbb hvk)
                refine hK.out _ _ ?kt_6 (fun hHeld => ?qt_6)
                case kt_6 => ((try dsimp only); exact HSof.out _ HX.out)
                case qt_6 =>
                  clear hK K
                  (try simp only [Act.put]); (try simp only [List.setIfInBounds_toArray])
                  refine wpAnyH_take (i := 6) (v := (.int .i64 ks.length)) rfl (by kernel_rfl) (by kernel_rfl) (by kernel_rfl) (fun _ _ _ h => h) (Or.inl ⟨by rfl, ?yt_7⟩) (by assumption) ?qt_7
                  case yt_7 => (intro w hSw; (try dsimp only at hSw); go_simp)
                  case qt_7 =>
                    (try simp only [Act.put]); (try simp only [List.setIfInBounds_toArray])
                    refine wpAnyH_take (i := 7) (v := (.int .i64 (ks.length + 1))) rfl (by kernel_rfl) (by kernel_rfl) (by kernel_rfl) (fun _ _ _ h => h) (Or.inl ⟨by rfl, ?yt_8⟩) (by assumption) ?qt_8
                    case yt_8 => (intro w hSw; (try dsimp only at hSw); go_simp)
                    case qt_8 =>
                      (try simp only [Act.put]); (try simp only [List.setIfInBounds_toArray])
                      refine wpAnyH_ready (rs := [8]) (by kernel_rfl) (by simp) ?_
                      refine AllReadyH.cons rfl (fun K hK => ?st_9) ?mt_9
                      case st_9 =>
                        (refine step_call _ (by rfl) 16 #[.int .i64 x.at_, .int .i64 (ks.length + 1)] (by go_simp) (HRt.out _) ?_; rintro e Yc ⟨rfl, rfl⟩; refine ⟨_, rfl, ?_⟩)
                        refine hK.out _ _ ?kt_9 (fun hHeld => ?qt_9)
                        case kt_9 => ((try dsimp only); exact HSof.out _ HX.out)
                        case qt_9 =>
                          clear hK K
                          (try simp only [Act.put]); (try simp only [List.setIfInBounds_toArray])
                          refine wpAnyH_done (by kernel_rfl) ?_ _
                          show wpList _ _ _ _ _ _
                          clear hHeld
                          go_upto_if 47 with (fail)
                          rename World => X2
                          go_cut [8, 9] (fun s8 s9 wx => s8 = .string rl ∧ s9 = .int .i64 ra ∧ X2 = wx)
                          case first =>
                            by_cases hy0 : y = 0
                            · have hyb : (y == 0) = true := by rw [beq_iff_eq]; exact hy0
                              have HYL := Lib.hid (HRL.out.1 hy0)
                              clear hy0
                              go_wp2_with fail
                              go_meet
                              exact ⟨by rw [HYL.out.1], by rw [HYL.out.2], rfl⟩
                            · have hyb : (y == 0) = false := by rw [beq_eq_false_iff_ne]; exact hy0
                              have HYL := Lib.hid (HRL.out.2 hy0)
                              clear hy0
                              go_wp2_with fail
                              go_meet
                              exact ⟨by rw [HYL.out.1], by rw [HYL.out.2], rfl⟩
                          case rest =>
                            obtain ⟨rfl, rfl, rfl⟩ := hcut
                            have m0 := (HX.out.m.cell 0).trans (show _ = some (.int .i64 next) from rfl)
                            have m1 := (HX.out.m.cell 1).trans (show _ = some (.slice A n c) from rfl)
                            clear HKi HRt HRL hkw
                            obtain ⟨ea, hea⟩ : ∃ ea, addE next nds y rl ra ⟨#[78, 111, 100, 101]⟩ = ea := ⟨_, rfl⟩
                            obtain ⟨ra1, hra1⟩ : ∃ r, (resR (next + 1) (addE next nds y rl ra ⟨#[78, 111, 100, 101]⟩) (addL next nds y rl ⟨#[78, 111, 100, 101]⟩ (admV next nds y rl ra 1 1).1.toNat)).1 = r := ⟨_, rfl⟩
                            have HEA := Lib.hid hea
                            have HR1 := Lib.hid hra1
                            have HAd2 : Hid (∀ X, NodesIn X 0 X.heap.size A n c nds → Calls Tryz.prog 18 #[.agg #[.int .i64 next, .slice A n c], .int .i64 y, .string rl, .int .i64 ra, .string ⟨#[78, 111, 100, 101]⟩] X fun e w' => ∃ (i : Int) (A' : Option Addr) (m c' : Nat) (l' : List (Nd × Leaf)), e = .returned (.tuple #[.agg #[.int .i64 ra1, .slice A' m c'], .int .i64 i, .int .i64 ea]) ∧ OwnM w' X.heap.size (.slice A' m c') l' ∧ l'.length = m ∧ Below X.heap.size X w' ∧ (ea = 0 → i = next ∧ l'.map (·.1) = addL next nds y rl ⟨#[78, 111, 100, 101]⟩ (admV next nds y rl ra 1 1).1.toNat)) := Lib.hid fun X hX => (HAd.out A n c X hX).mono fun e w' he => by
                              have := add_res he
                              rw [hra1, hea] at this
                              exact this
                            clear hea hra1 HAd
                            go_upto_region 10 with (go_at_call 18; (with_reducible refine (HAd2.out _ HX.out.nm).mono ?_); go_must (rintro e w3 ⟨i3, A3, n3, c3, l3, rfl, ho3, hl3, hb3, h03⟩; have hbx := below_box w3 (.cells #[.int .i64 ra1, .slice A3 n3 c3] 26); replace HX := Lib.hid ((HX.out.after hb3).after hbx); have HG : Hid (Blk (w3.alloc (.cells #[.int .i64 ra1, .slice A3 n3 c3] 26)) w3.heap.size 26 #[.int .i64 ra1, .slice A3 n3 c3] ∧ OwnM (w3.alloc (.cells #[.int .i64 ra1, .slice A3 n3 c3] 26)) 0 (.slice A3 n3 c3) l3 ∧ l3.length = n3 ∧ (ea = 0 → i3 = next ∧ l3.map (·.1) = addL next nds y rl ⟨#[78, 111, 100, 101]⟩ (admV next nds y rl ra 1 1).1.toNat)) := Lib.hid ⟨Blk.new _ _ _, (ho3.mono (Nat.zero_le _)).after hbx, hl3, h03⟩; clear ho3 hl3 hb3 h03 hbx))
                            generalize w3.alloc (.cells #[.int .i64 ra1, .slice A3 n3 c3] 26) = X3 at HX HG ⊢
                            generalize w3.heap.size = g10 at HG ⊢
                            clear m0 m1 HAd2
                            go_upto_if 58 with (fail)
                            go_cut [4] (fun s4 wx => s4 = .bool false ∧ Hid (F3 w x.cells g5 next nds A n c l wx))
                            case first =>
                              by_cases he0 : ea = 0
                              · have heb : (ea == 0) = true := by rw [beq_iff_eq]; exact he0
                                obtain ⟨hi3, hm3⟩ := HG.out.2.2.2 he0
                                have hE : addE next nds y rl ra ⟨#[78, 111, 100, 101]⟩ = 0 := HEA.out.trans he0
                                have hr1 : ra1 = next + 1 := by rw [← HR1.out]; unfold resR; rw [if_pos hE]
                                obtain ⟨b1, b2⟩ := HTM.out.add_back hE
                                have hfa := (HOkA.out hE).fits (by decide)
                                have HRm : Hid (∀ X, NodesIn X 0 X.heap.size A3 n3 c3 (addL next nds y rl ⟨#[78, 111, 100, 101]⟩ (admV next nds y rl ra 1 1).1.toNat) → Calls Tryz.prog 19 #[.agg #[.int .i64 (next + 1), .slice A3 n3 c3], .int .i64 next] X (TwoOwn X (next + 1, 0, nds))) := Lib.hid fun X hX => (remove_any X X.heap.size (next + 1) next A3 n3 c3 _ hX (Nat.le_refl _) hfa).mono fun e w' he => by
                                  have := two_of he
                                  rw [b1, b2] at this
                                  exact this
                                have HSa : Hid (∀ X A' n' c', NodesIn X 0 X.heap.size A' n' c' nds → NodesIn X 0 X.heap.size A n c nds → Calls Tryz.prog 20 #[.agg #[.int .i64 next, .slice A' n' c'], .agg #[.int .i64 next, .slice A n c]] X (Ret X (.bool true))) := Lib.hid fun X A' n' c' h1 h2 => by
                                  have := refSame_any X X.heap.size next next A' A n' c' n c nds nds h1 h2 (Nat.le_refl _)
                                  rwa [mdE_refl] at this
                                have HN3 : Hid (NodesIn X3 0 X3.heap.size A3 n3 c3 (addL next nds y rl ⟨#[78, 111, 100, 101]⟩ (admV next nds y rl ra 1 1).1.toNat)) := Lib.hid (by rw [← hm3]; exact (HG.out.2.1.nodesIn HG.out.2.2.1).mono (Nat.zero_le _) (Nat.le_refl _))
                                subst hi3
                                subst hr1
                                have k0 := (HG.out.1.cell 0).trans (show _ = some (.int .i64 (i3 + 1)) from rfl)
                                have k1 := (HG.out.1.cell 1).trans (show _ = some (.slice A3 n3 c3) from rfl)
                                clear hm3 hE b1 b2 hfa he0
                                go_upto_region 12 with (go_at_call 19; (with_reducible refine (HRm.out _ HN3.out).mono ?_); go_must (rintro e w4 ⟨A4, n4, c4, l4, rfl, ho4, hl4, hm4, hb4⟩; have hbx := below_box w4 (.cells #[.int .i64 (i3 + 1), .slice A4 n4 c4] 26); have HX4 := Lib.hid ((HX.out.after hb4).after hbx); have H4 : Hid (Blk (w4.alloc (.cells #[.int .i64 (i3 + 1), .slice A4 n4 c4] 26)) w4.heap.size 26 #[.int .i64 (i3 + 1), .slice A4 n4 c4] ∧ OwnM (w4.alloc (.cells #[.int .i64 (i3 + 1), .slice A4 n4 c4] 26)) 0 (.slice A4 n4 c4) l4 ∧ l4.length = n4 ∧ l4.map (·.1) = nds ∧ g5 ≠ w4.heap.size ∧ w.heap.size ≤ w4.heap.size) := Lib.hid ⟨Blk.new _ _ _, (ho4.mono (Nat.zero_le _)).after hbx, hl4, hm4, Nat.ne_of_lt (HX.out.after hb4).m.lt, (HX.out.after hb4).bel.size⟩; clear ho4 hl4 hm4 hb4 hbx))
                                generalize w4.alloc (.cells #[.int .i64 (i3 + 1), .slice A4 n4 c4] 26) = X4 at HX4 H4 ⊢
                                generalize w4.heap.size = g13 at H4 ⊢
                                clear k0 k1
                                have m0 := (HX4.out.m.cell 0).trans (show _ = some (.int .i64 i3) from rfl)
                                have k0 := (H4.out.1.cell 0).trans (show _ = some (.int .i64 (i3 + 1)) from rfl)
                                have k2 := H4.out.1.frozen 0
                                have HX5 := Lib.hid (HX4.out.far H4.out.1 H4.out.2.2.2.2.1 H4.out.2.2.2.2.2 0 (.int .i64 i3))
                                have H5 : Hid (Blk (X4.setCell ⟨g13, 0, none⟩ (.int .i64 i3)) g13 26 #[.int .i64 i3, .slice A4 n4 c4] ∧ NodesIn (X4.setCell ⟨g13, 0, none⟩ (.int .i64 i3)) 0 (X4.setCell ⟨g13, 0, none⟩ (.int .i64 i3)).heap.size A4 n4 c4 nds) := Lib.hid ⟨by simpa using H4.out.1.set_ 0 (.int .i64 i3), by rw [← H4.out.2.2.2.1]; exact ((H4.out.2.1.other H4.out.1 0 (.int .i64 i3)).nodesIn H4.out.2.2.1).mono (Nat.zero_le _) (Nat.le_refl _)⟩
                                go_upto_region 13 with (fail)
                                generalize X4.setCell ⟨g13, 0, none⟩ (.int .i64 i3) = X5 at HX5 H5 ⊢
                                clear m0 k0 k2 HX4 H4
                                have m0 := (HX5.out.m.cell 0).trans (show _ = some (.int .i64 i3) from rfl)
                                have m1 := (HX5.out.m.cell 1).trans (show _ = some (.slice A n c) from rfl)
                                have k0 := (H5.out.1.cell 0).trans (show _ = some (.int .i64 i3) from rfl)
                                have k1 := (H5.out.1.cell 1).trans (show _ = some (.slice A4 n4 c4) from rfl)
                                go_wp2_with (go_at_call 20; (with_reducible refine (HSa.out _ _ _ _ H5.out.2 HX5.out.nm).mono ?_); go_must (rintro e w6 ⟨rfl, hb6⟩; have HX6 := Lib.hid (HX5.out.after hb6); clear hb6))
                                go_meet
                                exact ⟨rfl, HX6⟩
                              · have heb : (ea == 0) = false := by rw [beq_eq_false_iff_ne]; exact he0
                                go_wp2_with fail
                                go_meet
                                exact ⟨rfl, HX⟩
                            case rest =>
                              obtain ⟨rfl, HX⟩ := hcut
                              rename World => X6
                              clear HG HOkA HR1 HEA
                              have m0 := (HX.out.m.cell 0).trans (show _ = some (.int .i64 next) from rfl)
                              have m1 := (HX.out.m.cell 1).trans (show _ = some (.slice A n c) from rfl)
                              by_cases hid0 : id = 0
                              · have hix : ixOf nds id = none := ixOf_no fun i z hz => by
                                  have := (HTM.out.ids z (List.mem_of_getElem? hz)).1
                                  omega
                                have hfv : findV next nds id = (zeroNd, false) := by unfold findV; rw [hix]; simp
                                have HF2 : Hid (∀ X, NodesIn X 0 X.heap.size A n c nds → Calls Tryz.prog 13 #[.agg #[.int .i64 next, .slice A n c], .int .i64 id] X (FindIs X (zeroNd, false))) := Lib.hid fun X hX => hfv ▸ HFi.out A n c X hX
                                have hib : (id == 0) = true := by rw [beq_iff_eq]; exact hid0
                                clear hix hfv hid0
                                go_wp2_with (go_at_call 13; (with_reducible refine (HF2.out _ HX.out.nm).mono ?_); go_must (rintro e w7 ⟨⟨⟨Ap, np, cp⟩, ⟨Ak, nk, ck⟩, ⟨Ar, nr, cr⟩⟩, rfl, _, hb7⟩; have HB7 := Lib.hid (HX.out.after hb7).bel; clear hb7))
                                go_ret
                                exact ret_b (by simp) rfl (below_more HB7.out _)
                              · obtain ⟨nd, hnd⟩ := HIK.out.resolve_left hid0
                                have hfv : findV next nds id = (nd, true) := by
                                  obtain ⟨ix, hix, _⟩ := ndOf_some hnd
                                  unfold findV
                                  rw [HTM.out.right, hix, hnd]; rfl
                                have HF2 : Hid (∀ X, NodesIn X 0 X.heap.size A n c nds → Calls Tryz.prog 13 #[.agg #[.int .i64 next, .slice A n c], .int .i64 id] X (FindIs X (nd, true))) := Lib.hid fun X hX => hfv ▸ HFi.out A n c X hX
                                have HND := Lib.hid hnd
                                clear hfv hnd hid0
                                go_upto_region 18 with (go_at_call 13; (with_reducible refine (HF2.out _ HX.out.nm).mono ?_); go_must (rintro e w7 ⟨⟨⟨Ap, np, cp⟩, ⟨Ak, nk, ck⟩, ⟨Ar, nr, cr⟩⟩, rfl, _, hb7⟩; have hbx := below_box w7 (.cells #[.int .i64 nd.id, .string nd.con, .int .i64 nd.par, .string nd.role, .slice Ap np cp, .slice Ak nk ck, .slice Ar nr cr] 41); replace HX := Lib.hid ((HX.out.after hb7).after hbx); have HN : Hid (Blk (w7.alloc (.cells #[.int .i64 nd.id, .string nd.con, .int .i64 nd.par, .string nd.role, .slice Ap np cp, .slice Ak nk ck, .slice Ar nr cr] 41)) w7.heap.size 41 #[.int .i64 nd.id, .string nd.con, .int .i64 nd.par, .string nd.role, .slice Ap np cp, .slice Ak nk ck, .slice Ar nr cr]) := Lib.hid (Blk.new _ _ _); clear hb7 hbx))
                                generalize w7.alloc (.cells #[.int .i64 nd.id, .string nd.con, .int .i64 nd.par, .string nd.role, .slice Ap np cp, .slice Ak nk ck, .slice Ar nr cr] 41) = X7 at HX HN ⊢
                                generalize w7.heap.size = g15 at HN ⊢
                                clear m0 m1 HFi
                                obtain ⟨L, hL⟩ : ∃ L, kidsR next nds nd.par nd.role = L := ⟨_, rfl⟩
                                have HL4 : Hid (L.length ≤ 4096) := Lib.hid (by rw [← hL]; exact kidsR_len)
                                have HK2 : Hid (∀ X, NodesIn X 0 X.heap.size A n c nds → Calls Tryz.prog 17 #[.agg #[.int .i64 next, .slice A n c], .int .i64 nd.par, .string nd.role] X (ListR X L)) := Lib.hid fun X hX => hL ▸ kidsQ_any X X.heap.size next nd.par nd.role A n c nds hX (Nat.le_refl _)
                                have HLe := Lib.hid hL
                                clear hL
                                have m0 := (HX.out.m.cell 0).trans (show _ = some (.int .i64 next) from rfl)
                                have m1 := (HX.out.m.cell 1).trans (show _ = some (.slice A n c) from rfl)
                                have n2 := (HN.out.cell 2).trans (show _ = some (.int .i64 nd.par) from rfl)
                                have n3 := (HN.out.cell 3).trans (show _ = some (.string nd.role) from rfl)
                                go_upto_region 19 with (go_at_call 17; (with_reducible refine (HK2.out _ HX.out.nm).mono ?_); go_must (rintro e w8 ⟨v8, rfl, hv8, hb8⟩; obtain ⟨AL, cL, hv8e⟩ := own_form hv8; subst hv8e; have HV := Lib.hid (own_mono hv8 (Nat.zero_le _)); replace HX := Lib.hid (HX.out.after hb8); replace HN := Lib.hid (HN.out.after hb8); clear hv8 hb8))
                                clear m0 m1 n2 n3
                                have hrow := own_row HV.out
                                have hnc := hrow.2.1
                                have hcm := hrow.2.2.1
                                unfold maxLen at hcm
                                clear hrow
                                go_upto_block 0 with (fail)
                                go_cut [18] (fun s18 wx => ∃ j : Nat, j ≤ L.length ∧ s18 = .int .i64 j ∧ Hid (nd.par = 0 → j = 0) ∧ Hid (nd.par ≠ 0 → L[j]? = some id) ∧ Hid (F3 w x.cells g5 next nds A n c l wx ∧ Blk wx g15 41 #[.int .i64 nd.id, .string nd.con, .int .i64 nd.par, .string nd.role, .slice Ap np cp, .slice Ak nk ck, .slice Ar nr cr] ∧ wx.ownsRow 0 3 1 (.slice AL L.length cL) L.length (intCells L)))
                                case first =>
                                  by_cases hp0 : nd.par = 0
                                  · have HLn : Hid (L = []) := Lib.hid (by rw [← HLe.out]; exact kidsR_none HTM.out hp0 _)
                                    have HP0 := Lib.hid hp0
                                    clear hp0
                                    go_wp2_with fail
                                    go_loopw [18] (fun v18 wx => ∃ j : Nat, j = 0 ∧ v18 = .int .i64 j ∧ Hid (F3 w x.cells g5 next nds A n c l wx ∧ Blk wx g15 41 #[.int .i64 nd.id, .string nd.con, .int .i64 nd.par, .string nd.role, .slice Ap np cp, .slice Ak nk ck, .slice Ar nr cr] ∧ wx.ownsRow 0 3 1 (.slice AL L.length cL) L.length (intCells L))) (fun _ _ => 0)
                                    case atStart => exact ⟨0, rfl, rfl, Lib.hid ⟨HX.out, HN.out, HV.out⟩⟩
                                    case round =>
                                      clear HX HN HV
                                      obtain ⟨j, hj0, rfl, HW⟩ := hrel
                                      rename World => wx
                                      have HJ0 := Lib.hid hj0
                                      have hjl : ¬ j < L.length := by rw [HLn.out]; simp
                                      have HJ1 : Hid (nd.par ≠ 0 → L[j]? = some id) := Lib.hid fun h => absurd HP0.out h
                                      clear hj0
                                      go_wp2_with fail
                                      go_meet
                                      exact ⟨j, by have := HJ0.out; omega, rfl, Lib.hid (fun _ => HJ0.out), HJ1, HW⟩
                                  · have HP0 := Lib.hid hp0
                                    have HAm := Lib.hid (among_kids HTM.out HND.out hp0)
                                    rw [HLe.out] at HAm
                                    clear hp0
                                    go_wp2_with fail
                                    go_loopw [18] (fun v18 wx => ∃ j : Nat, j ≤ L.length ∧ v18 = .int .i64 j ∧ Hid (∀ i, i < j → L[i]? ≠ some id) ∧ Hid (F3 w x.cells g5 next nds A n c l wx ∧ Blk wx g15 41 #[.int .i64 nd.id, .string nd.con, .int .i64 nd.par, .string nd.role, .slice Ap np cp, .slice Ak nk ck, .slice Ar nr cr] ∧ wx.ownsRow 0 3 1 (.slice AL L.length cL) L.length (intCells L))) (fun v _ => L.length - (intOf v).toNat)
                                    case atStart => exact ⟨0, Nat.zero_le _, rfl, Lib.hid (fun i hi => absurd hi (Nat.not_lt_zero _)), Lib.hid ⟨HX.out, HN.out, HV.out⟩⟩
                                    case round =>
                                      clear HX HN HV
                                      obtain ⟨j, hj, rfl, HNo, HW⟩ := hrel
                                      rename World => wx
                                      have hl4 := HL4.out
                                      by_cases hjl : j < L.length
                                      · obtain ⟨yj, hyj⟩ : ∃ yj, L[j]? = some yj := ⟨L[j], List.getElem?_eq_getElem hjl⟩
                                        obtain ⟨gl, hAL, _, _, hlc⟩ := list_at HW.out.2.2 hyj
                                        subst hAL
                                        have d0 := hlc wx HW.out.2.2
                                        have hji : (j : Int) < (L.length : Int) := by omega
                                        by_cases hye : yj = id
                                        · have hyb : (yj != id) = false := by rw [bne_eq_false_iff_eq]; exact hye
                                          have HJ : Hid (L[j]? = some id) := Lib.hid (by rw [hyj, hye])
                                          clear hye hyj hlc
                                          go_wp2_with fail
                                          go_meet
                                          exact ⟨j, hj, rfl, Lib.hid (fun h => absurd h HP0.out), Lib.hid (fun _ => HJ.out), HW⟩
                                        · have hyb : (yj != id) = true := by rw [bne_iff_ne]; exact hye
                                          have HNo2 : Hid (∀ i, i < j + 1 → L[i]? ≠ some id) := Lib.hid fun i hi => by
                                            rcases Nat.lt_or_ge i j with h1 | h1
                                            · exact HNo.out i h1
                                            · obtain rfl : i = j := by omega
                                              rw [hyj]; exact fun e => hye (by injection e)
                                          clear hye hyj hlc
                                          go_wp2_with fail
                                          go_roundw
                                          case rel => exact ⟨j + 1, by omega, by go_num, HNo2, HW⟩
                                          case measure => simp only [intOf]; omega
                                      · exfalso
                                        obtain ⟨ii, hii⟩ := List.getElem?_of_mem HAm.out.1
                                        have := (List.getElem?_eq_some_iff.1 hii).1
                                        exact HNo.out ii (by omega) hii
                                case rest =>
                                  clear HX HN HV
                                  obtain ⟨j, hjle, rfl, HJ0, HJ1, HW⟩ := hcut
                                  rename World => wx
                                  have HB : Hid (moveE next nds id y rl ra = 0 → moveE next (moveL next nds id y rl ra) id nd.par nd.role (j : Int) = 0 ∧ sortedV (moveL next (moveL next nds id y rl ra) id nd.par nd.role (j : Int)) = sortedV nds ∧ kidsR next (moveL next (moveL next nds id y rl ra) id nd.par nd.role (j : Int)) nd.par nd.role = L) := Lib.hid fun h0 => by
                                    have hB := HTM.out.moved HND.out h0
                                    by_cases hp0 : nd.par = 0
                                    · have hr : nd.role = ⟨#[]⟩ := by
                                        obtain ⟨hm, _⟩ := (ndOf_mem HTM.out.riseR).1 HND.out
                                        rcases HTM.out.par nd hm with ⟨_, h1⟩ | ⟨h1, _⟩
                                        · exact str_eq.1 (h1.trans (by rw [toList_data]))
                                        · exact absurd hp0 h1
                                      obtain ⟨r1, r2⟩ := BackS.root HTM.out HND.out hB hp0
                                      have e0 : (j : Int) = 0 := by have := HJ0.out hp0; omega
                                      have hl : L = [] := by rw [← HLe.out]; exact kidsR_none HTM.out hp0 _
                                      rw [e0, hr, hp0]
                                      exact ⟨r1, r2, (kidsR_none (hB.tm.move r1) rfl _).trans hl.symm⟩
                                    · have := BackS.kids HTM.out HND.out hB hp0 (was := j) (by rw [HLe.out]; exact HJ1.out hp0)
                                      rw [HLe.out] at this
                                      exact this
                                  have m0 := (HW.out.1.m.cell 0).trans (show _ = some (.int .i64 next) from rfl)
                                  have m1 := (HW.out.1.m.cell 1).trans (show _ = some (.slice A n c) from rfl)
                                  by_cases hem : moveE next nds id y rl ra = 0
                                  · obtain ⟨z, hz⟩ : ∃ z, moveL next nds id y rl ra = z := ⟨_, rfl⟩
                                    have hokz := HOkM.out hem
                                    obtain ⟨e1, e2, e3⟩ := HB.out hem
                                    rw [hz] at hokz e1 e2 e3
                                    obtain ⟨bk, hbk⟩ : ∃ bk, moveL next z id nd.par nd.role (j : Int) = bk := ⟨_, rfl⟩
                                    have hbt := hokz.tm.move e1
                                    try simp only at hbt
                                    rw [hbk] at hbt e2 e3
                                    have hfz := hokz.fits (by decide)
                                    try simp only at hfz
                                    have HM1 : Hid (∀ X, NodesIn X 0 X.heap.size A n c nds → Calls Tryz.prog 21 #[.agg #[.int .i64 next, .slice A n c], .int .i64 id, .int .i64 y, .string rl, .int .i64 ra] X (TwoOwn X (next, 0, z))) := Lib.hid fun X hX => by
                                      have := HMv.out A n c X hX
                                      unfold resR at this
                                      rw [if_pos hem, hz] at this
                                      exact this
                                    have hrs2 : nd.role.size ≤ maxLen := by
                                      have := (HTM.out.shortN nd ((ndOf_mem HTM.out.riseR).1 HND.out).1).role
                                      unfold maxLen; omega
                                    have HM2 : Hid (∀ X (A7 : Option Addr) (n7 c7 : Nat), NodesIn X 0 X.heap.size A7 n7 c7 z → Calls Tryz.prog 21 #[.agg #[.int .i64 next, .slice A7 n7 c7], .int .i64 id, .int .i64 nd.par, .string nd.role, .int .i64 (j : Int)] X (TwoOwn X (next, 0, bk))) := Lib.hid fun X A7 n7 c7 hX => (move_any X X.heap.size next id nd.par j nd.role A7 n7 c7 z hX (Nat.le_refl _) hrs2 hfz).mono fun e w' he => by
                                      have := two_of he
                                      rw [e1, hbk] at this
                                      exact this
                                    have HK3 : Hid (∀ X (A9 : Option Addr) (n9 c9 : Nat), NodesIn X 0 X.heap.size A9 n9 c9 bk → Calls Tryz.prog 17 #[.agg #[.int .i64 next, .slice A9 n9 c9], .int .i64 nd.par, .string nd.role] X (ListR X L)) := Lib.hid fun X A9 n9 c9 hX => e3 ▸ kidsQ_any X X.heap.size next nd.par nd.role A9 n9 c9 bk hX (Nat.le_refl _)
                                    have HS3 : Hid (∀ X (A9 : Option Addr) (n9 c9 : Nat), NodesIn X 0 X.heap.size A9 n9 c9 bk → Calls Tryz.prog 23 #[.agg #[.int .i64 next, .slice A9 n9 c9]] X (Ret X (.string (sortedV nds)))) := Lib.hid fun X A9 n9 c9 hX => e2 ▸ sorted_any X X.heap.size next A9 n9 c9 bk hX (Nat.le_refl _) (by have := hbt.len; have := hX.1; omega) hbt.shortN
                                    have HS4 : Hid (∀ X, NodesIn X 0 X.heap.size A n c nds → Calls Tryz.prog 23 #[.agg #[.int .i64 next, .slice A n c]] X (Ret X (.string (sortedV nds)))) := Lib.hid fun X hX => sorted_any X X.heap.size next A n c nds hX (Nat.le_refl _) (by have := HTM.out.len; have := hX.1; omega) HTM.out.shortN
                                    have HIn : Hid (∀ (X : World) (B : Nat) (A1 : Option Addr) (c1 B' : Nat) (A2 : Option Addr) (c2 : Nat), X.ownsRow B 3 1 (.slice A1 L.length c1) L.length (intCells L) → X.ownsRow B' 3 1 (.slice A2 L.length c2) L.length (intCells L) → Calls Tryz.prog 22 #[.slice A1 L.length c1, .slice A2 L.length c2] X (Ret X (.bool true))) := Lib.hid fun X B A1 c1 B' A2 c2 h1 h2 => by
                                      have := drew_ret (refInts_any X _ _ _ _ A1 A2 _ c1 _ c2 L L (own_row h1) (own_row h2))
                                      rwa [eqL_refl intE_refl] at this
                                    have hl4 := HL4.out
                                    have hLw : IntKind.i64.wrap ((L.length : Int) + 1) = (L.length : Int) + 1 := IntWalk.i64_in _ (by omega)
                                    have hjz : ¬ ((L.length : Int) + 1 = 0) := by omega
                                    have hjt : (j : Int).tmod ((L.length : Int) + 1) = (j : Int) := by rw [Int.tmod_eq_emod_of_nonneg (by omega)]; exact Int.emod_eq_of_lt (by omega) (by omega)
                                    clear hokz e1 e2 e3 hbk hbt hfz hrs2 hz hem HMv HOkM
                                    go_upto_region 25 with (go_at_call 21; (with_reducible refine (HM1.out _ HW.out.1.nm).mono ?_); go_must (rintro e w9 ⟨A7, n7, c7, l7, rfl, ho7, hl7, hm7, hb7⟩; have hbx := below_box w9 (.cells #[.int .i64 next, .slice A7 n7 c7] 26); have HT : Hid (BT w x.cells g5 next nds A n c l g15 #[.int .i64 nd.id, .string nd.con, .int .i64 nd.par, .string nd.role, .slice Ap np cp, .slice Ak nk ck, .slice Ar nr cr] AL cL L w9.heap.size A7 n7 c7 z (w9.alloc (.cells #[.int .i64 next, .slice A7 n7 c7] 26))) := Lib.hid ⟨(HW.out.1.after hb7).after hbx, (HW.out.2.1.after hb7).after hbx, own_after (own_after HW.out.2.2 hb7) hbx, Blk.new _ _ _, l7, (ho7.mono (Nat.zero_le _)).after hbx, hl7, hm7⟩; clear ho7 hl7 hm7 hb7 hbx))
                                    generalize w9.alloc (.cells #[.int .i64 next, .slice A7 n7 c7] 26) = X9 at HT ⊢
                                    generalize w9.heap.size = g19 at HT ⊢
                                    clear m0 m1 HW
                                    have HSo2 : Hid (∀ X, BT w x.cells g5 next nds A n c l g15 #[.int .i64 nd.id, .string nd.con, .int .i64 nd.par, .string nd.role, .slice Ap np cp, .slice Ak nk ck, .slice Ar nr cr] AL cL L g19 A7 n7 c7 z X → X.cell? ⟨g19, 0, none⟩ = some (.int .i64 next) ∧ X.cell? ⟨g19, 1, none⟩ = some (.slice A7 n7 c7) ∧ X.cell? ⟨g15, 2, none⟩ = some (.int .i64 nd.par) ∧ X.cell? ⟨g15, 3, none⟩ = some (.string nd.role)) := Lib.hid fun X hX => ⟨(hX.zb.cell 0).trans rfl, (hX.zb.cell 1).trans rfl, (hX.nb.cell 2).trans rfl, (hX.nb.cell 3).trans rfl⟩
                                    replace HT := Lib.hid (HT.out.after (below_drew1 _))
                                    go_cut [21, 22] (fun s21 s22 wq => ∃ (g21 : Nat) (A9 : Option Addr) (n9 c9 : Nat) (l9 : List (Nd × Leaf)), s21 = .pointer (some ⟨g21, 0, none⟩) ∧ s22 = .int .i64 0 ∧ Hid (BT w x.cells g5 next nds A n c l g15 #[.int .i64 nd.id, .string nd.con, .int .i64 nd.par, .string nd.role, .slice Ap np cp, .slice Ak nk ck, .slice Ar nr cr] AL cL L g19 A7 n7 c7 z wq) ∧ Hid (Blk wq g21 26 #[.int .i64 next, .slice A9 n9 c9] ∧ OwnM wq 0 (.slice A9 n9 c9) l9 ∧ l9.length = n9 ∧ l9.map (·.1) = bk ∧ g5 ≠ g21 ∧ g19 ≠ g21 ∧ w.heap.size ≤ g21))
                                    case first =>
                                      refine wp_region_held (S := fun w' => w'.cell? ⟨g19, 0, none⟩ = some (.int .i64 next) ∧ w'.cell? ⟨g19, 1, none⟩ = some (.slice A7 n7 c7) ∧ w'.cell? ⟨g15, 2, none⟩ = some (.int .i64 nd.par) ∧ w'.cell? ⟨g15, 3, none⟩ = some (.string nd.role)) (by kernel_rfl) ?_
                                      show wpAnyH _ _ _ _ _ 18 (Array.replicate 18 false) _ X9.drew
                                      generalize X9.drew = wz at HT ⊢
                                      have hHeld : (fun w' => w'.cell? ⟨g19, 0, none⟩ = some (.int .i64 next) ∧ w'.cell? ⟨g19, 1, none⟩ = some (.slice A7 n7 c7) ∧ w'.cell? ⟨g15, 2, none⟩ = some (.int .i64 nd.par) ∧ w'.cell? ⟨g15, 3, none⟩ = some (.string nd.role)) wz := HSo2.out _ HT.out
                                      refine wpAnyH_take (i := 0) (v := (.agg #[.int .i64 next, .slice A7 n7 c7])) rfl (by kernel_rfl) (by kernel_rfl) (by kernel_rfl) (fun _ _ _ h => h) (Or.inl ⟨by rfl, ?yc_1⟩) (by assumption) ?qc_1
                                      case yc_1 => (intro w hSw; (try dsimp only at hSw); go_simp)
                                      case qc_1 =>
                                        (try simp only [Act.put]); (try simp only [List.setIfInBounds_toArray])
                                        refine wpAnyH_take (i := 1) (v := (.int .i64 id)) rfl (by kernel_rfl) (by kernel_rfl) (by kernel_rfl) (fun _ _ _ h => h) (Or.inl ⟨by rfl, ?yc_2⟩) (by assumption) ?qc_2
                                        case yc_2 => (intro w hSw; (try dsimp only at hSw); go_simp)
                                        case qc_2 =>
                                          (try simp only [Act.put]); (try simp only [List.setIfInBounds_toArray])
                                          refine wpAnyH_take (i := 2) (v := (.pointer (some ⟨g15, 2, none⟩))) rfl (by kernel_rfl) (by kernel_rfl) (by kernel_rfl) (fun _ _ _ h => h) (Or.inl ⟨by rfl, ?yc_3⟩) (by assumption) ?qc_3
                                          case yc_3 => (intro w hSw; (try dsimp only at hSw); go_simp)
                                          case qc_3 =>
                                            (try simp only [Act.put]); (try simp only [List.setIfInBounds_toArray])
                                            refine wpAnyH_take (i := 3) (v := (.int .i64 nd.par)) rfl (by kernel_rfl) (by kernel_rfl) (by kernel_rfl) (fun _ _ _ h => h) (Or.inl ⟨by rfl, ?yc_4⟩) (by assumption) ?qc_4
                                            case yc_4 => (intro w hSw; (try dsimp only at hSw); go_simp)
                                            case qc_4 =>
                                              (try simp only [Act.put]); (try simp only [List.setIfInBounds_toArray])
                                              refine wpAnyH_take (i := 4) (v := (.pointer (some ⟨g15, 3, none⟩))) rfl (by kernel_rfl) (by kernel_rfl) (by kernel_rfl) (fun _ _ _ h => h) (Or.inl ⟨by rfl, ?yc_5⟩) (by assumption) ?qc_5
                                              case yc_5 => (intro w hSw; (try dsimp only at hSw); go_simp)
                                              case qc_5 =>
                                                (try simp only [Act.put]); (try simp only [List.setIfInBounds_toArray])
                                                refine wpAnyH_take (i := 5) (v := (.string nd.role)) rfl (by kernel_rfl) (by kernel_rfl) (by kernel_rfl) (fun _ _ _ h => h) (Or.inl ⟨by rfl, ?yc_6⟩) (by assumption) ?qc_6
                                                case yc_6 => (intro w hSw; (try dsimp only at hSw); go_simp)
                                                case qc_6 =>
                                                  (try simp only [Act.put]); (try simp only [List.setIfInBounds_toArray])
                                                  refine wpAnyH_take (i := 6) (v := (.int .i64 (j : Int))) rfl (by kernel_rfl) (by kernel_rfl) (by kernel_rfl) (fun _ _ _ h => h) (Or.inl ⟨by rfl, ?yc_7⟩) (by assumption) ?qc_7
                                                  case yc_7 => (intro w hSw; (try dsimp only at hSw); go_simp)
                                                  case qc_7 =>
                                                    (try simp only [Act.put]); (try simp only [List.setIfInBounds_toArray])
                                                    refine wpAnyH_take (i := 7) (v := (.slice AL L.length cL)) rfl (by kernel_rfl) (by kernel_rfl) (by kernel_rfl) (fun _ _ _ h => h) (Or.inl ⟨by rfl, ?yc_8⟩) (by assumption) ?qc_8
                                                    case yc_8 => (intro w hSw; (try dsimp only at hSw); go_simp)
                                                    case qc_8 =>
                                                      (try simp only [Act.put]); (try simp only [List.setIfInBounds_toArray])
                                                      refine wpAnyH_take (i := 8) (v := (.int .i64 L.length)) rfl (by kernel_rfl) (by kernel_rfl) (by kernel_rfl) (fun _ _ _ h => h) (Or.inl ⟨by rfl, ?yc_9⟩) (by assumption) ?qc_9
                                                      case yc_9 => (intro w hSw; (try dsimp only at hSw); go_simp)
                                                      case qc_9 =>
                                                        (try simp only [Act.put]); (try simp only [List.setIfInBounds_toArray])
                                                        refine wpAnyH_take (i := 9) (v := (.int .i64 (L.length + 1))) rfl (by kernel_rfl) (by kernel_rfl) (by kernel_rfl) (fun _ _ _ h => h) (Or.inl ⟨by rfl, ?yc_10⟩) (by assumption) ?qc_10
                                                        case yc_10 => (intro w hSw; (try dsimp only at hSw); go_simp)
                                                        case qc_10 =>
                                                          (try simp only [Act.put]); (try simp only [List.setIfInBounds_toArray])
                                                          refine wpAnyH_take (i := 10) (v := (.int .i64 (j : Int))) rfl (by kernel_rfl) (by kernel_rfl) (by kernel_rfl) (fun _ _ _ h => h) (Or.inl ⟨by rfl, ?yc_11⟩) (by assumption) ?qc_11
                                                          case yc_11 => (intro w hSw; (try dsimp only at hSw); go_simp)
                                                          case qc_11 =>
                                                            (try simp only [Act.put]); (try simp only [List.setIfInBounds_toArray])
                                                            refine wpAnyH_ready (rs := [11, 15]) (by kernel_rfl) (by simp) ?_
                                                            refine AllReadyH.cons rfl (fun K hK => ?sc_12) ?mc_12
                                                            case sc_12 =>
                                                              (refine step_call _ (by rfl) 21 #[.agg #[.int .i64 next, .slice A7 n7 c7], .int .i64 id, .int .i64 nd.par, .string nd.role, .int .i64 (j : Int)] (by go_simp) (HM2.out _ _ _ _ HT.out.nz) ?_; rintro e Yb ⟨A9, n9, c9, l9, rfl, ho9, hl9, hm9, hb9⟩; refine ⟨_, rfl, ?_⟩; replace HT := Lib.hid (HT.out.after hb9); have HO9 := Lib.hid (show OwnM Yb 0 (.slice A9 n9 c9) l9 ∧ l9.length = n9 ∧ l9.map (·.1) = bk from ⟨ho9.mono (Nat.zero_le _), hl9, hm9⟩); clear ho9 hl9 hm9 hb9)
                                                              refine hK.out _ _ ?kc_12 (fun hHeld => ?qc_12)
                                                              case kc_12 => ((try dsimp only); first | exact HSo2.out _ HTz.out | exact HSo2.out _ HT.out)
                                                              case qc_12 =>
                                                                clear hK K
                                                                (try simp only [Act.put]); (try simp only [List.setIfInBounds_toArray])
                                                                refine wpAnyH_take (i := 12) (v := (.tuple #[.agg #[.int .i64 next, .slice A9 n9 c9], .int .i64 0])) rfl (by kernel_rfl) (by kernel_rfl) (by kernel_rfl) (fun _ _ _ h => h) (Or.inl ⟨by rfl, ?yc_13⟩) (by assumption) ?qc_13
                                                                case yc_13 => (intro w hSw; (try dsimp only at hSw); go_simp)
                                                                case qc_13 =>
                                                                  (try simp only [Act.put]); (try simp only [List.setIfInBounds_toArray])
                                                                  refine wpAnyH_take (i := 13) (v := (.agg #[.int .i64 next, .slice A9 n9 c9])) rfl (by kernel_rfl) (by kernel_rfl) (by kernel_rfl) (fun _ _ _ h => h) (Or.inl ⟨by rfl, ?yc_14⟩) (by assumption) ?qc_14
                                                                  case yc_14 => (intro w hSw; (try dsimp only at hSw); go_simp)
                                                                  case qc_14 =>
                                                                    (try simp only [Act.put]); (try simp only [List.setIfInBounds_toArray])
                                                                    refine wpAnyH_take (i := 14) (v := (.int .i64 0)) rfl (by kernel_rfl) (by kernel_rfl) (by kernel_rfl) (fun _ _ _ h => h) (Or.inl ⟨by rfl, ?yc_15⟩) (by assumption) ?qc_15
                                                                    case yc_15 => (intro w hSw; (try dsimp only at hSw); go_simp)
                                                                    case qc_15 =>
                                                                      (try simp only [Act.put]); (try simp only [List.setIfInBounds_toArray])
                                                                      refine wpAnyH_ready (rs := [15]) (by kernel_rfl) (by simp) ?_
                                                                      refine AllReadyH.cons rfl (fun K hK => ?sc_16) ?mc_16
                                                                      case sc_16 =>
                                                                        (refine step_alloc _ (by rfl) 26 #[.int .i64 0, .slice none 0 0] (by go_simp) ?_; intro g21 Yd hx21 hb21 hs21; have HU := Lib.hid hx21; have HG21 : Hid (g5 ≠ g21 ∧ g19 ≠ g21 ∧ w.heap.size ≤ g21) := Lib.hid ⟨by have := HT.out.f.m.lt; omega, by have := HT.out.zb.lt; omega, Nat.le_trans HT.out.f.bel.size hs21⟩; replace HT := Lib.hid (HT.out.after hb21); replace HO9 := Lib.hid (And.intro (HO9.out.1.after hb21) HO9.out.2); clear hx21 hb21 hs21)
                                                                        refine hK.out _ _ ?kc_16 (fun hHeld => ?qc_16)
                                                                        case kc_16 => ((try dsimp only); first | exact HSo2.out _ HTz.out | exact HSo2.out _ HT.out)
                                                                        case qc_16 =>
                                                                          clear hK K
                                                                          (try simp only [Act.put]); (try simp only [List.setIfInBounds_toArray])
                                                                          refine wpAnyH_ready (rs := [16]) (by kernel_rfl) (by simp) ?_
                                                                          refine AllReadyH.cons rfl (fun K hK => ?sc_17) ?mc_17
                                                                          case sc_17 =>
                                                                            (have z0 := (HU.out.cell 0).trans (show _ = some (.int .i64 0) from rfl); have z1 := (HU.out.cell 1).trans (show _ = some (.slice none 0 0) from rfl); have f0 := HU.out.frozen 0; have f1 := HU.out.frozen 1; have HTz := Lib.hid ((HT.out.far HU.out HG21.out.1 HG21.out.2.1 HG21.out.2.2 0 (.int .i64 next)).far (HU.out.set_ 0 (.int .i64 next)) HG21.out.1 HG21.out.2.1 HG21.out.2.2 1 (.slice A9 n9 c9)); have HOz := Lib.hid (show OwnM _ 0 (.slice A9 n9 c9) l9 from (HO9.out.1.other HU.out 0 (.int .i64 next)).other (HU.out.set_ 0 _) 1 (.slice A9 n9 c9)); have HUz := Lib.hid ((HU.out.set_ 0 (.int .i64 next)).set_ 1 (.slice A9 n9 c9)); go_simp)
                                                                            refine hK.out _ _ ?kc_17 (fun hHeld => ?qc_17)
                                                                            case kc_17 => ((try dsimp only); first | exact HSo2.out _ HTz.out | exact HSo2.out _ HT.out)
                                                                            case qc_17 =>
                                                                              clear hK K
                                                                              (try simp only [Act.put]); (try simp only [List.setIfInBounds_toArray])
                                                                              refine wpAnyH_take (i := 17) (v := (.int .i64 0)) rfl (by kernel_rfl) (by kernel_rfl) (by kernel_rfl) (fun _ _ _ h => h) (Or.inl ⟨by rfl, ?yc_18⟩) (by assumption) ?qc_18
                                                                              case yc_18 => (intro w hSw; (try dsimp only at hSw); go_simp)
                                                                              case qc_18 =>
                                                                                (try simp only [Act.put]); (try simp only [List.setIfInBounds_toArray])
                                                                                refine wpAnyH_done (by kernel_rfl) ?_ _
                                                                                clear hHeld
                                                                                go_wp2_with fail
                                                                                go_meet
                                                                                exact ⟨g21, A9, n9, c9, l9, rfl, rfl, HTz, Lib.hid ⟨by simpa using HUz.out, HOz.out, HO9.out.2.1, HO9.out.2.2, HG21.out⟩⟩
                                                                          case mc_17 =>
                                                                            exact AllReadyH.nil
                                                                      case mc_16 =>
                                                                        exact AllReadyH.nil
                                                            case mc_12 =>
                                                              refine AllReadyH.cons rfl (fun K hK => ?sc_19) ?mc_19
                                                              case sc_19 =>
                                                                (refine step_alloc _ (by rfl) 26 #[.int .i64 0, .slice none 0 0] (by go_simp) ?_; intro g21 Yd hx21 hb21 hs21; have HU := Lib.hid hx21; have HG21 : Hid (g5 ≠ g21 ∧ g19 ≠ g21 ∧ w.heap.size ≤ g21) := Lib.hid ⟨by have := HT.out.f.m.lt; omega, by have := HT.out.zb.lt; omega, Nat.le_trans HT.out.f.bel.size hs21⟩; replace HT := Lib.hid (HT.out.after hb21); clear hx21 hb21 hs21)
                                                                refine hK.out _ _ ?kc_19 (fun hHeld => ?qc_19)
                                                                case kc_19 => ((try dsimp only); first | exact HSo2.out _ HTz.out | exact HSo2.out _ HT.out)
                                                                case qc_19 =>
                                                                  clear hK K
                                                                  (try simp only [Act.put]); (try simp only [List.setIfInBounds_toArray])
                                                                  refine wpAnyH_ready (rs := [11]) (by kernel_rfl) (by simp) ?_
                                                                  refine AllReadyH.cons rfl (fun K hK => ?sc_20) ?mc_20
                                                                  case sc_20 =>
                                                                    (refine step_call _ (by rfl) 21 #[.agg #[.int .i64 next, .slice A7 n7 c7], .int .i64 id, .int .i64 nd.par, .string nd.role, .int .i64 (j : Int)] (by go_simp) (HM2.out _ _ _ _ HT.out.nz) ?_; rintro e Yb ⟨A9, n9, c9, l9, rfl, ho9, hl9, hm9, hb9⟩; refine ⟨_, rfl, ?_⟩; replace HT := Lib.hid (HT.out.after hb9); have HO9 := Lib.hid (show OwnM Yb 0 (.slice A9 n9 c9) l9 ∧ l9.length = n9 ∧ l9.map (·.1) = bk from ⟨ho9.mono (Nat.zero_le _), hl9, hm9⟩); replace HU := Lib.hid (HU.out.after hb9); clear ho9 hl9 hm9 hb9)
                                                                    refine hK.out _ _ ?kc_20 (fun hHeld => ?qc_20)
                                                                    case kc_20 => ((try dsimp only); first | exact HSo2.out _ HTz.out | exact HSo2.out _ HT.out)
                                                                    case qc_20 =>
                                                                      clear hK K
                                                                      (try simp only [Act.put]); (try simp only [List.setIfInBounds_toArray])
                                                                      refine wpAnyH_take (i := 12) (v := (.tuple #[.agg #[.int .i64 next, .slice A9 n9 c9], .int .i64 0])) rfl (by kernel_rfl) (by kernel_rfl) (by kernel_rfl) (fun _ _ _ h => h) (Or.inl ⟨by rfl, ?yc_21⟩) (by assumption) ?qc_21
                                                                      case yc_21 => (intro w hSw; (try dsimp only at hSw); go_simp)
                                                                      case qc_21 =>
                                                                        (try simp only [Act.put]); (try simp only [List.setIfInBounds_toArray])
                                                                        refine wpAnyH_take (i := 13) (v := (.agg #[.int .i64 next, .slice A9 n9 c9])) rfl (by kernel_rfl) (by kernel_rfl) (by kernel_rfl) (fun _ _ _ h => h) (Or.inl ⟨by rfl, ?yc_22⟩) (by assumption) ?qc_22
                                                                        case yc_22 => (intro w hSw; (try dsimp only at hSw); go_simp)
                                                                        case qc_22 =>
                                                                          (try simp only [Act.put]); (try simp only [List.setIfInBounds_toArray])
                                                                          refine wpAnyH_take (i := 14) (v := (.int .i64 0)) rfl (by kernel_rfl) (by kernel_rfl) (by kernel_rfl) (fun _ _ _ h => h) (Or.inl ⟨by rfl, ?yc_23⟩) (by assumption) ?qc_23
                                                                          case yc_23 => (intro w hSw; (try dsimp only at hSw); go_simp)
                                                                          case qc_23 =>
                                                                            (try simp only [Act.put]); (try simp only [List.setIfInBounds_toArray])
                                                                            refine wpAnyH_ready (rs := [16]) (by kernel_rfl) (by simp) ?_
                                                                            refine AllReadyH.cons rfl (fun K hK => ?sc_24) ?mc_24
                                                                            case sc_24 =>
                                                                              (have z0 := (HU.out.cell 0).trans (show _ = some (.int .i64 0) from rfl); have z1 := (HU.out.cell 1).trans (show _ = some (.slice none 0 0) from rfl); have f0 := HU.out.frozen 0; have f1 := HU.out.frozen 1; have HTz := Lib.hid ((HT.out.far HU.out HG21.out.1 HG21.out.2.1 HG21.out.2.2 0 (.int .i64 next)).far (HU.out.set_ 0 (.int .i64 next)) HG21.out.1 HG21.out.2.1 HG21.out.2.2 1 (.slice A9 n9 c9)); have HOz := Lib.hid (show OwnM _ 0 (.slice A9 n9 c9) l9 from (HO9.out.1.other HU.out 0 (.int .i64 next)).other (HU.out.set_ 0 _) 1 (.slice A9 n9 c9)); have HUz := Lib.hid ((HU.out.set_ 0 (.int .i64 next)).set_ 1 (.slice A9 n9 c9)); go_simp)
                                                                              refine hK.out _ _ ?kc_24 (fun hHeld => ?qc_24)
                                                                              case kc_24 => ((try dsimp only); first | exact HSo2.out _ HTz.out | exact HSo2.out _ HT.out)
                                                                              case qc_24 =>
                                                                                clear hK K
                                                                                (try simp only [Act.put]); (try simp only [List.setIfInBounds_toArray])
                                                                                refine wpAnyH_take (i := 17) (v := (.int .i64 0)) rfl (by kernel_rfl) (by kernel_rfl) (by kernel_rfl) (fun _ _ _ h => h) (Or.inl ⟨by rfl, ?yc_25⟩) (by assumption) ?qc_25
                                                                                case yc_25 => (intro w hSw; (try dsimp only at hSw); go_simp)
                                                                                case qc_25 =>
                                                                                  (try simp only [Act.put]); (try simp only [List.setIfInBounds_toArray])
                                                                                  refine wpAnyH_done (by kernel_rfl) ?_ _
                                                                                  clear hHeld
                                                                                  go_wp2_with fail
                                                                                  go_meet
                                                                                  exact ⟨g21, A9, n9, c9, l9, rfl, rfl, HTz, Lib.hid ⟨by simpa using HUz.out, HOz.out, HO9.out.2.1, HO9.out.2.2, HG21.out⟩⟩
                                                                            case mc_24 =>
                                                                              exact AllReadyH.nil
                                                                  case mc_20 =>
                                                                    exact AllReadyH.nil
                                                              case mc_19 =>
                                                                exact AllReadyH.nil
                                    case rest =>
                                      obtain ⟨g21, A9, n9, c9, l9, rfl, rfl, HT, HO⟩ := hcut
                                      rename World => wq
                                      have n2 := (HT.out.nb.cell 2).trans (show _ = some (.int .i64 nd.par) from rfl)
                                      go_upto_if 148 with (fail)
                                      clear n2
                                      go_cut [22] (fun s22 wy => s22 = .int .i64 0 ∧ ∃ (Af : Option Addr) (nf cf : Nat) (lf : List (Nd × Leaf)), Hid (BT w x.cells g5 next nds A n c l g15 #[.int .i64 nd.id, .string nd.con, .int .i64 nd.par, .string nd.role, .slice Ap np cp, .slice Ak nk ck, .slice Ar nr cr] AL cL L g19 A7 n7 c7 z wy) ∧ Hid (Blk wy g21 26 #[.int .i64 next, .slice Af nf cf] ∧ OwnM wy 0 (.slice Af nf cf) lf ∧ lf.length = nf ∧ lf.map (·.1) = bk))
                                      case first =>
                                        by_cases hp0 : nd.par = 0
                                        · have t0 : (nd.par == 0) = true := by rw [beq_iff_eq]; exact hp0
                                          have HM3 : Hid (∀ X (A7 : Option Addr) (n7 c7 : Nat), NodesIn X 0 X.heap.size A7 n7 c7 z → Calls Tryz.prog 21 #[.agg #[.int .i64 next, .slice A7 n7 c7], .int .i64 id, .int .i64 0, .string ⟨#[]⟩, .int .i64 0] X (TwoOwn X (next, 0, bk))) := Lib.hid fun X A7 n7 c7 hX => by
                                            have h1 := HM2.out X A7 n7 c7 hX
                                            have hr : nd.role = ⟨#[]⟩ := by
                                              obtain ⟨hm, _⟩ := (ndOf_mem HTM.out.riseR).1 HND.out
                                              rcases HTM.out.par nd hm with ⟨_, h1⟩ | ⟨h1, _⟩
                                              · exact str_eq.1 (h1.trans (by rw [toList_data]))
                                              · exact absurd hp0 h1
                                            have e0 : (j : Int) = 0 := by have := HJ0.out hp0; omega
                                            rw [hr, hp0, e0] at h1
                                            exact h1
                                          clear hp0
                                          have z0 := (HT.out.zb.cell 0).trans (show _ = some (.int .i64 next) from rfl)
                                          have z1 := (HT.out.zb.cell 1).trans (show _ = some (.slice A7 n7 c7) from rfl)
                                          go_wp2_with (go_at_call 21; (with_reducible refine (HM3.out _ _ _ _ HT.out.nz).mono ?_); go_must (rintro e wr ⟨Af, nf, cf, lf, rfl, hof, hlf, hmf, hbf⟩; have hT2 := HT.out.after hbf; have hO2 := HO.out.1.after hbf; have y0 := (hO2.cell 0).trans (show _ = some (.int .i64 next) from rfl); have y1 := (hO2.cell 1).trans (show _ = some (.slice A9 n9 c9) from rfl); have y2 := hO2.frozen 0; have y3 := hO2.frozen 1; have HT3 := Lib.hid ((hT2.far hO2 HO.out.2.2.2.2.1 HO.out.2.2.2.2.2.1 HO.out.2.2.2.2.2.2 0 (.int .i64 next)).far (hO2.set_ 0 (.int .i64 next)) HO.out.2.2.2.2.1 HO.out.2.2.2.2.2.1 HO.out.2.2.2.2.2.2 1 (.slice Af nf cf)); have HO3 := Lib.hid (((hof.mono (Nat.zero_le _)).other hO2 0 (.int .i64 next)).other (hO2.set_ 0 (.int .i64 next)) 1 (.slice Af nf cf)); have HU3 := Lib.hid ((hO2.set_ 0 (.int .i64 next)).set_ 1 (.slice Af nf cf)); have HLf := Lib.hid hlf; have HMf := Lib.hid hmf; clear hT2 hO2 hof hlf hmf hbf))
                                          go_meet
                                          exact ⟨rfl, Af, nf, cf, lf, HT3, Lib.hid ⟨by simpa using HU3.out, HO3.out, HLf.out, HMf.out⟩⟩
                                        · have t0 : (nd.par == 0) = false := by rw [beq_eq_false_iff_ne]; exact hp0
                                          clear hp0
                                          go_wp2_with fail
                                          go_meet
                                          exact ⟨rfl, A9, n9, c9, l9, HT, Lib.hid ⟨HO.out.1, HO.out.2.1, HO.out.2.2.1, HO.out.2.2.2.1⟩⟩
                                      case rest =>
                                        clear HT HO
                                        obtain ⟨rfl, Af, nf, cf, lf, HT, HO⟩ := hcut
                                        rename World => wz
                                        go_upto_region 30 with (fail)
                                        have HS5 : Hid (∀ X, BT w x.cells g5 next nds A n c l g15 #[.int .i64 nd.id, .string nd.con, .int .i64 nd.par, .string nd.role, .slice Ap np cp, .slice Ak nk ck, .slice Ar nr cr] AL cL L g19 A7 n7 c7 z X → Blk X g21 26 #[.int .i64 next, .slice Af nf cf] → X.cell? ⟨g21, 0, none⟩ = some (.int .i64 next) ∧ X.cell? ⟨g21, 1, none⟩ = some (.slice Af nf cf) ∧ X.cell? ⟨g15, 2, none⟩ = some (.int .i64 nd.par) ∧ X.cell? ⟨g15, 3, none⟩ = some (.string nd.role) ∧ X.cell? ⟨g5, 0, none⟩ = some (.int .i64 next) ∧ X.cell? ⟨g5, 1, none⟩ = some (.slice A n c)) := Lib.hid fun X hX hb => ⟨(hb.cell 0).trans rfl, (hb.cell 1).trans rfl, (hX.nb.cell 2).trans rfl, (hX.nb.cell 3).trans rfl, (hX.f.m.cell 0).trans rfl, (hX.f.m.cell 1).trans rfl⟩
                                        have hNf : ∀ X, OwnM X 0 (.slice Af nf cf) lf → NodesIn X 0 X.heap.size Af nf cf bk := fun X hX => by
                                          rw [← HO.out.2.2.2]; exact (hX.nodesIn HO.out.2.2.1).mono (Nat.zero_le _) (Nat.le_refl _)
                                        have HNf := Lib.hid hNf
                                        clear hNf
                                        go_region_held3 (fun Y => Y.cell? ⟨g21, 0, none⟩ = some (.int .i64 next) ∧ Y.cell? ⟨g21, 1, none⟩ = some (.slice Af nf cf) ∧ Y.cell? ⟨g15, 2, none⟩ = some (.int .i64 nd.par) ∧ Y.cell? ⟨g15, 3, none⟩ = some (.string nd.role) ∧ Y.cell? ⟨g5, 0, none⟩ = some (.int .i64 next) ∧ Y.cell? ⟨g5, 1, none⟩ = some (.slice A n c)) (first | exact HS5.out _ HT4.out HU4.out | exact HS5.out _ HT3.out HU3.out | exact HS5.out _ HT2.out HU2.out | exact HS5.out _ HT1.out HU1.out | exact HS5.out _ (HT.out.after (below_drew1 _)) (HO.out.1.after (below_drew1 _)) | exact HS5.out _ HT.out HO.out.1) ((first | (go_at_call 17; (with_reducible refine (HK3.out _ _ _ _ (HNf.out _ (HO.out.2.1.after (below_drew1 _)))).mono ?_); rintro e w1 ⟨v1, rfl, hv1, hb1⟩; obtain ⟨AK, cK, hke⟩ := own_form hv1; subst hke; have HV1 := Lib.hid hv1; have HT1 := Lib.hid ((HT.out.after (below_drew1 _)).after hb1); have HU1 := Lib.hid ((HO.out.1.after (below_drew1 _)).after hb1); have HO1 := Lib.hid ((HO.out.2.1.after (below_drew1 _)).after hb1); clear hv1 hb1) | (go_at_call 22; (with_reducible refine (HIn.out _ _ _ _ _ _ _ HV1.out HT1.out.lr).mono ?_); rintro e w2 ⟨rfl, hb2⟩; have HT2 := Lib.hid (HT1.out.after hb2); have HU2 := Lib.hid (HU1.out.after hb2); have HO2 := Lib.hid (HO1.out.after hb2); clear hb2) | (go_at_call 23; (with_reducible refine (HS3.out _ _ _ _ (HNf.out _ HO2.out)).mono ?_); rintro e w3 ⟨rfl, hb3⟩; have HT3 := Lib.hid (HT2.out.after hb3); have HU3 := Lib.hid (HU2.out.after hb3); clear hb3) | (go_at_call 23; (with_reducible refine (HS4.out _ HT3.out.f.nm).mono ?_); rintro e w4 ⟨rfl, hb4⟩; have HT4 := Lib.hid (HT3.out.after hb4); have HU4 := Lib.hid (HU3.out.after hb4); clear hb4)))
                                        clear HS5 HNf
                                        go_wp2_with fail
                                        go_ret
                                        exact ret_b (by simp) rfl HT4.out.f.bel
                                  · have hcd := moveE_codes HTM.out (role := rl) (at_ := ra) HND.out HYK.out
                                    clear HB
                                    rcases hcd with h0 | h0 | h0 | h0 | h0
                                    · exact absurd h0 hem
                                    · have HM1 : Hid (∀ X, NodesIn X 0 X.heap.size A n c nds → Calls Tryz.prog 21 #[.agg #[.int .i64 next, .slice A n c], .int .i64 id, .int .i64 y, .string rl, .int .i64 ra] X (TwoOwn X (0, 21, []))) := Lib.hid fun X hX => by
                                        have := HMv.out A n c X hX
                                        unfold resR at this
                                        rw [if_neg hem, h0] at this
                                        exact this
                                      clear h0 hem
                                      go_wp2_with (go_at_call 21; (with_reducible refine (HM1.out _ HW.out.1.nm).mono ?_); go_must (rintro e w9 ⟨A7, n7, c7, l7, rfl, _, _, _, hb7⟩; have HB7 := Lib.hid (HW.out.1.after hb7).bel; clear hb7))
                                      go_ret
                                      exact ret_b (by simp) rfl (below_more HB7.out _)
                                    · have HM1 : Hid (∀ X, NodesIn X 0 X.heap.size A n c nds → Calls Tryz.prog 21 #[.agg #[.int .i64 next, .slice A n c], .int .i64 id, .int .i64 y, .string rl, .int .i64 ra] X (TwoOwn X (0, 22, []))) := Lib.hid fun X hX => by
                                        have := HMv.out A n c X hX
                                        unfold resR at this
                                        rw [if_neg hem, h0] at this
                                        exact this
                                      clear h0 hem
                                      go_wp2_with (go_at_call 21; (with_reducible refine (HM1.out _ HW.out.1.nm).mono ?_); go_must (rintro e w9 ⟨A7, n7, c7, l7, rfl, _, _, _, hb7⟩; have HB7 := Lib.hid (HW.out.1.after hb7).bel; clear hb7))
                                      go_ret
                                      exact ret_b (by simp) rfl (below_more HB7.out _)
                                    · have HM1 : Hid (∀ X, NodesIn X 0 X.heap.size A n c nds → Calls Tryz.prog 21 #[.agg #[.int .i64 next, .slice A n c], .int .i64 id, .int .i64 y, .string rl, .int .i64 ra] X (TwoOwn X (0, 23, []))) := Lib.hid fun X hX => by
                                        have := HMv.out A n c X hX
                                        unfold resR at this
                                        rw [if_neg hem, h0] at this
                                        exact this
                                      clear h0 hem
                                      go_wp2_with (go_at_call 21; (with_reducible refine (HM1.out _ HW.out.1.nm).mono ?_); go_must (rintro e w9 ⟨A7, n7, c7, l7, rfl, _, _, _, hb7⟩; have HB7 := Lib.hid (HW.out.1.after hb7).bel; clear hb7))
                                      go_ret
                                      exact ret_b (by simp) rfl (below_more HB7.out _)
                                    · have HM1 : Hid (∀ X, NodesIn X 0 X.heap.size A n c nds → Calls Tryz.prog 21 #[.agg #[.int .i64 next, .slice A n c], .int .i64 id, .int .i64 y, .string rl, .int .i64 ra] X (TwoOwn X (0, 2, []))) := Lib.hid fun X hX => by
                                        have := HMv.out A n c X hX
                                        unfold resR at this
                                        rw [if_neg hem, h0] at this
                                        exact this
                                      clear h0 hem
                                      go_wp2_with (go_at_call 21; (with_reducible refine (HM1.out _ HW.out.1.nm).mono ?_); go_must (rintro e w9 ⟨A7, n7, c7, l7, rfl, _, _, _, hb7⟩; have HB7 := Lib.hid (HW.out.1.after hb7).bel; clear hb7))
                                      go_ret
                                      exact ret_b (by simp) rfl (below_more HB7.out _)
                      case mt_9 =>
                        exact AllReadyH.nil
              case mt_6 =>
                exact AllReadyH.nil
end Go.Proofs.YtohinklkcinjpaaGreat

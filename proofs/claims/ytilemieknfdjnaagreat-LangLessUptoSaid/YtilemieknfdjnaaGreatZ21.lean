/-
  WALKS: fewer: a concept with one part less, in its own memory.
  WALKS: fewer.
-/
import Derived.Test.YtilemieknfdjnaaGreatZ20
import Derived.Deep.RegionHeld3
namespace Go.Proofs.YtilemieknfdjnaaGreat
open Go Go.RowKit Go.Sort
set_option linter.unusedVariables false
attribute [local go_sem ↓] Go.wp_at_zero Go.wp_at_succ
set_option maxRecDepth 20000 in
set_option maxHeartbeats 800000 in
theorem rest_far (w : World) (x : Int) (n : Nat) (h0 : 0 < n) (h1 : n ≤ 1048576) :
    Calls Tryz.prog 9 #[.int .i64 x, .int .i64 n] w fun e w' => e = .returned (.int .i64 (restV x n)) ∧ w = w' := by
  have hlt := restV_lt x h0
  have HW : Hid (wrap64 ((IntKind.u64.wrap x).tmod n) = (restV x n : Int)) := Lib.hid (by
    rw [restV_eq]
    exact IntWalk.wrap64_in (restV x n : Int) (by omega))
  clear hlt
  go_enter Tryz.func9, Tryz.ntmps9
  go_wp2_with fail
  go_ret
  exact ⟨by rw [HW.out]; rfl, rfl⟩
theorem own_rowSet {w : World} {B size n g : Nat} {e t : TypeId} {v : Value} {xs : List Value} {cs cs' : Array Value} (h : w.ownsRow B e size v n xs) (hg : Blk w g t cs) (hne : e ≠ t) : (w.setRow g cs').ownsRow B e size v n xs := by
  have h1 := own_blk_ne h hg hne
  rcases h.2 with ⟨hv, hn⟩ | ⟨b, cap, cur, hv, hb, hc, h3, h4, h5, h6⟩
  · exact ⟨h.1, .inl ⟨hv, hn⟩⟩
  · refine ⟨h.1, .inr ⟨b, cap, cur, hv, hb, ?_, h3, h4, h5, h6⟩⟩
    rw [hv] at h1
    rw [setRow_other _ _ _ _ (fun e => h1 (by rw [e]; rfl))]
    exact hc
theorem infoConF : (Tryz.prog.info? 47).map (·.size) = some 6 := by kernel_rfl
theorem con_oneF {a b : ByteArray} {c : Bool} {A B C : Option Addr} {n1 c1 n2 c2 n3 c3 : Nat} : (#[.string a, .string b, .bool c, .slice A n1 c1, .slice B n2 c2, .slice C n3 c3] : Array Value).all (·.oneCell') = true := by simp [Value.oneCell']
theorem load_conF {w : World} {g : Nat} {a b : ByteArray} {c : Bool} {A B C : Option Addr} {n1 c1 n2 c2 n3 c3 : Nat} (h : Blk w g 47 #[.string a, .string b, .bool c, .slice A n1 c1, .slice B n2 c2, .slice C n3 c3]) : (loadVar 47 ⟨g, 0, none⟩).run Tryz.prog w = .ok (.agg #[.string a, .string b, .bool c, .slice A n1 c1, .slice B n2 c2, .slice C n3 c3]) w :=
  run_loadVar_row w g _ _ _ (0, 0) _ h Tryz.underlying47 rfl infoConF
/-- the boxes of fewer, and the concept's own lists -/
structure FSt (w : World) (B : Nat) (g : ConD × Leaf) (Y : World) : Prop where
  a : Blk Y w.heap.size 47 #[.string g.1.name, .string g.1.super, .bool g.1.abs, .slice g.2.p.A g.2.p.n g.2.p.c, .slice g.2.k.A g.2.k.n g.2.k.c, .slice g.2.r.A g.2.r.n g.2.r.c]
  b : Blk Y (w.heap.size + 1) 47 #[.string ⟨#[]⟩, .string ⟨#[]⟩, .bool false, .slice none 0 0, .slice none 0 0, .slice none 0 0]
  o : ConOwn Y B g
  gr : w.grownBy Y none
/-- the block of one of the concept's lists -/
def PartBlk (g : ConD × Leaf) (v : Value) : Prop := v = .slice g.2.p.A g.2.p.n g.2.p.c ∨ v = .slice g.2.k.A g.2.k.n g.2.k.c ∨ v = .slice g.2.r.A g.2.r.n g.2.r.c
structure FEnd (w : World) (B : Nat) (g h : ConD × Leaf) (Y : World) : Prop where
  a : Blk Y w.heap.size 47 #[.string h.1.name, .string h.1.super, .bool h.1.abs, .slice h.2.p.A h.2.p.n h.2.p.c, .slice h.2.k.A h.2.k.n h.2.k.c, .slice h.2.r.A h.2.r.n h.2.r.c]
  b : Blk Y (w.heap.size + 1) 47 #[.string ⟨#[]⟩, .string ⟨#[]⟩, .bool false, .slice none 0 0, .slice none 0 0, .slice none 0 0]
  o : ConOwn Y B h
  f : Fewer g.1 h.1
  gr : ∃ v, PartBlk g v ∧ w.grownBy Y v.ownBlock
def FewerPost (w : World) (B : Nat) (g : ConD × Leaf) (e : Ending) (w' : World) : Prop := ∃ h : ConD × Leaf, e = .returned (.agg #[.string h.1.name, .string h.1.super, .bool h.1.abs, .slice h.2.p.A h.2.p.n h.2.p.c, .slice h.2.k.A h.2.k.n h.2.k.c, .slice h.2.r.A h.2.r.n h.2.r.c]) ∧ ConOwn w' B h ∧ Fewer g.1 h.1 ∧ ∃ v, PartBlk g v ∧ w.grownBy w' v.ownBlock
theorem FSt.whole {w : World} {B : Nat} {g : ConD × Leaf} {Y : World} (h : FSt w B g Y) : FEnd w B g g Y := ⟨h.a, h.b, h.o, ⟨rfl, rfl, List.Sublist.refl _, List.Sublist.refl _, List.Sublist.refl _⟩, _, .inl rfl, h.gr.but _⟩
theorem FEnd.tell {w : World} {B : Nat} {g h : ConD × Leaf} {Y : World} (H : FEnd w B g h Y) (cs : Array Value) : FewerPost w B g (.returned (.agg #[.string h.1.name, .string h.1.super, .bool h.1.abs, .slice h.2.p.A h.2.p.n h.2.p.c, .slice h.2.k.A h.2.k.n h.2.k.c, .slice h.2.r.A h.2.r.n h.2.r.c])) (Y.setRow (w.heap.size + 1) cs) := by
  obtain ⟨v, hv, hg⟩ := H.gr
  refine ⟨h, rfl, ⟨H.o.pn, H.o.kn, H.o.rn, own_rowSet H.o.p H.b (by decide), own_rowSet H.o.k H.b (by decide), own_rowSet H.o.r H.b (by decide)⟩, H.f, v, hv, ⟨hg.os, hg.tape, hg.output, by simpa [World.setRow] using hg.size, fun k hk hne => ?_⟩⟩
  rw [setRow_other _ _ _ _ (by omega)]
  exact hg.block k hk hne
theorem one_pdC (a : PropD) : (pdC a).all (·.oneCell') = true := by simp [pdC, Value.oneCell']
theorem fcut_p {w : World} {B : Nat} {g : ConD × Leaf} {Y Y' : World} (h : FSt w B g Y) (hB : B ≤ w.heap.size) (i : Nat) {A' : Option Addr} {m' c' : Nat} (hm : m' = (g.1.props.eraseIdx i).length) (hown : Y'.ownsRow B 85 2 (.slice A' m' c') m' (pdCells (g.1.props.eraseIdx i))) (hg : Y.grownBy Y' (Value.ownBlock (.slice g.2.p.A g.2.p.n g.2.p.c))) : FEnd w B g (({ g.1 with props := g.1.props.eraseIdx i }, { g.2 with p := ⟨A', m', c'⟩ }) : ConD × Leaf) (Y'.setCell ⟨w.heap.size, 3, none⟩ (.slice A' m' c')) := by
  have ho := h.o.p
  have ha := h.a.grown hg (Ne.symm (own_blk_ne ho h.a (by decide)))
  have hb := h.b.grown hg (Ne.symm (own_blk_ne ho h.b (by decide)))
  have hk : ∀ {e : TypeId} {size n : Nat} {v : Value} {xs : List Value}, Y.ownsRow B e size v n xs → e ≠ 85 → e ≠ 47 → (Y'.setCell ⟨w.heap.size, 3, none⟩ (.slice A' m' c')).ownsRow B e size v n xs := fun h0 h1 h2 => own_other (own_kept h0 ho h1 hg) ha h2 3 _
  refine ⟨by simpa using ha.set_ 3 (.slice A' m' c'), hb.far (p := ⟨w.heap.size, 3, none⟩) (by show _ ≠ w.heap.size; omega) _, ?_, ?_, _, .inl rfl, ?_⟩
  · exact ⟨hm, h.o.kn, h.o.rn, own_other hown ha (by decide) 3 _, hk h.o.k (by decide) (by decide), hk h.o.r (by decide) (by decide)⟩
  · exact ⟨rfl, rfl, List.eraseIdx_sublist _ _, List.Sublist.refl _, List.Sublist.refl _⟩
  · have h2 := (h.gr.but (Value.ownBlock (.slice g.2.p.A g.2.p.n g.2.p.c))).trans hg
    refine ⟨h2.os, h2.tape, h2.output, by have := h2.size; simpa using this, fun k hk hne => ?_⟩
    rw [Below.heap_setCell _ ⟨w.heap.size, 3, none⟩ _ _ (by show k ≠ w.heap.size; omega)]
    exact h2.block k hk hne
theorem one_kdC (a : KidD) : (kdC a).all (·.oneCell') = true := by simp [kdC, Value.oneCell']
theorem fcut_k {w : World} {B : Nat} {g : ConD × Leaf} {Y Y' : World} (h : FSt w B g Y) (hB : B ≤ w.heap.size) (i : Nat) {A' : Option Addr} {m' c' : Nat} (hm : m' = (g.1.kids.eraseIdx i).length) (hown : Y'.ownsRow B 62 4 (.slice A' m' c') m' (kdCells (g.1.kids.eraseIdx i))) (hg : Y.grownBy Y' (Value.ownBlock (.slice g.2.k.A g.2.k.n g.2.k.c))) : FEnd w B g (({ g.1 with kids := g.1.kids.eraseIdx i }, { g.2 with k := ⟨A', m', c'⟩ }) : ConD × Leaf) (Y'.setCell ⟨w.heap.size, 4, none⟩ (.slice A' m' c')) := by
  have ho := h.o.k
  have ha := h.a.grown hg (Ne.symm (own_blk_ne ho h.a (by decide)))
  have hb := h.b.grown hg (Ne.symm (own_blk_ne ho h.b (by decide)))
  have hk : ∀ {e : TypeId} {size n : Nat} {v : Value} {xs : List Value}, Y.ownsRow B e size v n xs → e ≠ 62 → e ≠ 47 → (Y'.setCell ⟨w.heap.size, 4, none⟩ (.slice A' m' c')).ownsRow B e size v n xs := fun h0 h1 h2 => own_other (own_kept h0 ho h1 hg) ha h2 4 _
  refine ⟨by simpa using ha.set_ 4 (.slice A' m' c'), hb.far (p := ⟨w.heap.size, 4, none⟩) (by show _ ≠ w.heap.size; omega) _, ?_, ?_, _, .inr (.inl rfl), ?_⟩
  · exact ⟨h.o.pn, hm, h.o.rn, hk h.o.p (by decide) (by decide), own_other hown ha (by decide) 4 _, hk h.o.r (by decide) (by decide)⟩
  · exact ⟨rfl, rfl, List.Sublist.refl _, List.eraseIdx_sublist _ _, List.Sublist.refl _⟩
  · have h2 := (h.gr.but (Value.ownBlock (.slice g.2.k.A g.2.k.n g.2.k.c))).trans hg
    refine ⟨h2.os, h2.tape, h2.output, by have := h2.size; simpa using this, fun k hk hne => ?_⟩
    rw [Below.heap_setCell _ ⟨w.heap.size, 4, none⟩ _ _ (by show k ≠ w.heap.size; omega)]
    exact h2.block k hk hne
theorem one_rdC (a : RefD) : (rdC a).all (·.oneCell') = true := by simp [rdC, Value.oneCell']
theorem fcut_r {w : World} {B : Nat} {g : ConD × Leaf} {Y Y' : World} (h : FSt w B g Y) (hB : B ≤ w.heap.size) (i : Nat) {A' : Option Addr} {m' c' : Nat} (hm : m' = (g.1.refs.eraseIdx i).length) (hown : Y'.ownsRow B 87 3 (.slice A' m' c') m' (rdCells (g.1.refs.eraseIdx i))) (hg : Y.grownBy Y' (Value.ownBlock (.slice g.2.r.A g.2.r.n g.2.r.c))) : FEnd w B g (({ g.1 with refs := g.1.refs.eraseIdx i }, { g.2 with r := ⟨A', m', c'⟩ }) : ConD × Leaf) (Y'.setCell ⟨w.heap.size, 5, none⟩ (.slice A' m' c')) := by
  have ho := h.o.r
  have ha := h.a.grown hg (Ne.symm (own_blk_ne ho h.a (by decide)))
  have hb := h.b.grown hg (Ne.symm (own_blk_ne ho h.b (by decide)))
  have hk : ∀ {e : TypeId} {size n : Nat} {v : Value} {xs : List Value}, Y.ownsRow B e size v n xs → e ≠ 87 → e ≠ 47 → (Y'.setCell ⟨w.heap.size, 5, none⟩ (.slice A' m' c')).ownsRow B e size v n xs := fun h0 h1 h2 => own_other (own_kept h0 ho h1 hg) ha h2 5 _
  refine ⟨by simpa using ha.set_ 5 (.slice A' m' c'), hb.far (p := ⟨w.heap.size, 5, none⟩) (by show _ ≠ w.heap.size; omega) _, ?_, ?_, _, .inr (.inr rfl), ?_⟩
  · exact ⟨h.o.pn, h.o.kn, hm, hk h.o.p (by decide) (by decide), hk h.o.k (by decide) (by decide), own_other hown ha (by decide) 5 _⟩
  · exact ⟨rfl, rfl, List.Sublist.refl _, List.Sublist.refl _, List.eraseIdx_sublist _ _⟩
  · have h2 := (h.gr.but (Value.ownBlock (.slice g.2.r.A g.2.r.n g.2.r.c))).trans hg
    refine ⟨h2.os, h2.tape, h2.output, by have := h2.size; simpa using this, fun k hk hne => ?_⟩
    rw [Below.heap_setCell _ ⟨w.heap.size, 5, none⟩ _ _ (by show k ≠ w.heap.size; omega)]
    exact h2.block k hk hne
end Go.Proofs.YtilemieknfdjnaaGreat
namespace Go.Proofs.YtilemieknfdjnaaGreat
open Go Go.RowKit Go.Sort
set_option linter.unusedVariables false
attribute [local go_sem ↓] Go.wp_at_zero Go.wp_at_succ
theorem results_rowF {fn : Func} {p : Tmp} {ty : TypeId} (h : fn.results = #[.cell p ty]) (tmps : Array Value) (w : World) (g : Nat) (cs : Array Value)
    (hp : tmps.getD p undef = .pointer (some ⟨g, 0, none⟩)) (hl : (loadVar ty ⟨g, 0, none⟩).run Tryz.prog w = .ok (.agg cs) w) :
    (results fn tmps).run Tryz.prog w = .ok (.agg cs) w := by
  have hp' : tmps[p]?.getD undef = .pointer (some ⟨g, 0, none⟩) := by simpa using hp
  simp [results, h, hp', asAddr, hl]
theorem FSt.drewN {w : World} {B : Nat} {g : ConD × Leaf} {Y : World} (h : FSt w B g Y) (n : Nat) : FSt w B g (Y.drewN n) := ⟨h.a, h.b, ⟨h.o.pn, h.o.kn, h.o.rn, h.o.p, h.o.k, h.o.r⟩, ⟨h.gr.os, h.gr.tape, h.gr.output, h.gr.size, h.gr.block⟩⟩
theorem FSt.drew {w : World} {B : Nat} {g : ConD × Leaf} {Y : World} (h : FSt w B g Y) : FSt w B g Y.drew := ⟨h.a, h.b, ⟨h.o.pn, h.o.kn, h.o.rn, h.o.p, h.o.k, h.o.r⟩, ⟨h.gr.os, h.gr.tape, h.gr.output, h.gr.size, h.gr.block⟩⟩
set_option maxRecDepth 40000 in
set_option maxHeartbeats 6400000 in
theorem fewer_any (w : World) (B : Nat) (g : ConD × Leaf) (part : Int) (h : ConOwn w B g) (hB : B ≤ w.heap.size) (hp : g.1.props.length ≤ 20000) (hk : g.1.kids.length ≤ 20000) (hr : g.1.refs.length ≤ 20000) :
    Calls Tryz.prog 26 #[.agg #[.string g.1.name, .string g.1.super, .bool g.1.abs, .slice g.2.p.A g.2.p.n g.2.p.c, .slice g.2.k.A g.2.k.n g.2.k.c, .slice g.2.r.A g.2.r.n g.2.r.c], .int .i64 part] w (FewerPost w B g) := by
  have hpn : g.2.p.n ≤ 20000 := by rw [h.pn]; exact hp
  have hkn : g.2.k.n ≤ 20000 := by rw [h.kn]; exact hk
  have hrn : g.2.r.n ≤ 20000 := by rw [h.rn]; exact hr
  have HRw : Hid (∀ Y, Calls Tryz.prog 9 #[.int .i64 part, .int .i64 ((g.2.p.n : Int) + g.2.k.n + g.2.r.n + 1)] Y (fun e w' => e = .returned (.int .i64 (restV part (g.2.p.n + g.2.k.n + g.2.r.n + 1))) ∧ Y = w')) := Lib.hid fun Y => by
    have h1 := rest_far Y part (g.2.p.n + g.2.k.n + g.2.r.n + 1) (by omega) (by omega)
    rw [show (((g.2.p.n + g.2.k.n + g.2.r.n + 1 : Nat)) : Int) = (g.2.p.n : Int) + g.2.k.n + g.2.r.n + 1 from by omega] at h1
    exact h1
  have HS : Hid (FSt w B g ((w.alloc (.cells #[.string g.1.name, .string g.1.super, .bool g.1.abs, .slice g.2.p.A g.2.p.n g.2.p.c, .slice g.2.k.A g.2.k.n g.2.k.c, .slice g.2.r.A g.2.r.n g.2.r.c] 47)).alloc (.cells #[.string ⟨#[]⟩, .string ⟨#[]⟩, .bool false, .slice none 0 0, .slice none 0 0, .slice none 0 0] 47))) := Lib.hid ⟨(Blk.new _ _ _).alloc _, Blk.new' (by simp), conOK.after (conOK.after h (below_of_alloc _)) (below_of_alloc _), (World.grownBy_alloc w _ none).trans (World.grownBy_alloc _ _ none)⟩
  have HB := Lib.hid hB
  clear h hp hk hr
  have hw5 : IntKind.i64.wrap ((g.2.p.n : Int) + g.2.k.n) = (g.2.p.n : Int) + g.2.k.n := IntWalk.i64_in _ (by omega)
  have hw6 : IntKind.i64.wrap ((g.2.p.n : Int) + g.2.k.n + g.2.r.n) = (g.2.p.n : Int) + g.2.k.n + g.2.r.n := IntWalk.i64_in _ (by omega)
  have hw7 : IntKind.i64.wrap ((g.2.p.n : Int) + g.2.k.n + g.2.r.n + 1) = (g.2.p.n : Int) + g.2.k.n + g.2.r.n + 1 := IntWalk.i64_in _ (by omega)
  have a0 := (HS.out.a.cell 0).trans (show _ = some (.string g.1.name) from rfl)
  have a1 := (HS.out.a.cell 1).trans (show _ = some (.string g.1.super) from rfl)
  have a2 := (HS.out.a.cell 2).trans (show _ = some (.bool g.1.abs) from rfl)
  have a3 := (HS.out.a.cell 3).trans (show _ = some (.slice g.2.p.A g.2.p.n g.2.p.c) from rfl)
  have a4 := (HS.out.a.cell 4).trans (show _ = some (.slice g.2.k.A g.2.k.n g.2.k.c) from rfl)
  have a5 := (HS.out.a.cell 5).trans (show _ = some (.slice g.2.r.A g.2.r.n g.2.r.c) from rfl)
  go_enter Tryz.func26, Tryz.ntmps26
  go_wp2_with fail
  go_quiet (fail)
  go_wp2_with fail
  all_goals refine (HRw.out _).mono ?_
  rintro e w2 ⟨rfl, rfl⟩
  have hm := restV_lt part (n := g.2.p.n + g.2.k.n + g.2.r.n + 1) (by omega)
  generalize restV part (g.2.p.n + g.2.k.n + g.2.r.n + 1) = m at hm ⊢
  clear a0 a1 a2 a3 a4 a5
  replace HS := Lib.hid (FSt.drewN HS.out nq)
  generalize World.drewN ((w.alloc (.cells #[.string g.1.name, .string g.1.super, .bool g.1.abs, .slice g.2.p.A g.2.p.n g.2.p.c, .slice g.2.k.A g.2.k.n g.2.k.c, .slice g.2.r.A g.2.r.n g.2.r.c] 47)).alloc (.cells #[.string ⟨#[]⟩, .string ⟨#[]⟩, .bool false, .slice none 0 0, .slice none 0 0, .slice none 0 0] 47)) nq = wc at HS ⊢
  by_cases h1 : m < g.2.p.n
  · obtain ⟨i, hi0⟩ : ∃ i, i = m := ⟨m, rfl⟩
    subst hi0
    have hin : i < g.2.p.n := h1
    go_upto_region 4 with (fail)
    have HOw := Lib.hid HS.out.o.p
    obtain ⟨gu, hA⟩ := own_some HOw.out (Nat.lt_of_le_of_lt (Nat.zero_le _) hin)
    replace HOw := Lib.hid (own_addr HOw.out hA)
    have hnc := (own_row HOw.out).2.1
    have hcm := (own_row HOw.out).2.2.1
    unfold maxLen at hcm
    have HSo : Hid (∀ Y, Blk Y w.heap.size 47 #[.string g.1.name, .string g.1.super, .bool g.1.abs, .slice g.2.p.A g.2.p.n g.2.p.c, .slice g.2.k.A g.2.k.n g.2.k.c, .slice g.2.r.A g.2.r.n g.2.r.c] → (Y.cell? ⟨w.heap.size, 3, none⟩ = some (.slice (some ⟨gu, 0, none⟩) g.2.p.n g.2.p.c))) := Lib.hid fun Y h2 => (h2.cell 3).trans (by rw [← hA]; rfl)
    have hw1 : IntKind.i64.wrap ((i : Int) + 1) = (i : Int) + 1 := IntWalk.i64_in _ (by omega)
    have hic : i ≤ g.2.p.c := by omega
    have hb1 : (0 : Int) ≤ (i : Int) + 1 ∧ (i : Int) + 1 ≤ (g.2.p.n : Int) := by omega
    obtain ⟨p, hp1, hp2⟩ := behind_at gu g.2.p.n g.2.p.c i 2 hnc hin
    have HP2 := Lib.hid hp2
    have HA := Lib.hid hA
    have HYL : Hid (g.2.p.n = g.1.props.length) := Lib.hid HS.out.o.pn
    obtain ⟨i1, hi1, hz1, hs1, hbb1⟩ := info_parts info_pd
    clear hp2 hA
    refine wp_region_held_tail 9 (fun Y => Y.cell? ⟨w.heap.size, 3, none⟩ = some (.slice (some ⟨gu, 0, none⟩) g.2.p.n g.2.p.c)) (by kernel_rfl) (by kernel_rfl) ?hSv0 (fun hHeld => ?qv00)
    case hSv0 => exact HSo.out _ HS.out.a
    case qv00 =>
      simp only [List.take_succ_cons, List.take_zero, List.drop_succ_cons, List.drop_zero]
      have HS2 := Lib.hid (HS.out.drew)
      have HO2 : Hid (wc.drew.ownsRow B 85 2 (.slice (some ⟨gu, 0, none⟩) g.2.p.n g.2.p.c) g.2.p.n (g.1.props.flatMap pdC)) := Lib.hid HOw.out
      refine wpAnyH_take (i := 0) (v := (.pointer (some ⟨w.heap.size, 3, none⟩))) rfl (by kernel_rfl) (by kernel_rfl) (by kernel_rfl) (fun _ _ _ h => h) (Or.inl ⟨by rfl, ?yv0_1⟩) (by assumption) ?qv0_1
      case yv0_1 => (intro w hSw; (try dsimp only at hSw); go_simp)
      case qv0_1 =>
        (try simp only [Act.put]); (try simp only [List.setIfInBounds_toArray])
        refine wpAnyH_take (i := 1) (v := (.slice (some ⟨gu, 0, none⟩) g.2.p.n g.2.p.c)) rfl (by kernel_rfl) (by kernel_rfl) (by kernel_rfl) (fun _ _ _ h => h) (Or.inl ⟨by rfl, ?yv0_2⟩) (by assumption) ?qv0_2
        case yv0_2 => (intro w hSw; (try dsimp only at hSw); go_simp)
        case qv0_2 =>
          (try simp only [Act.put]); (try simp only [List.setIfInBounds_toArray])
          refine wpAnyH_take (i := 2) (v := (.int .i64 i)) rfl (by kernel_rfl) (by kernel_rfl) (by kernel_rfl) (fun _ _ _ h => h) (Or.inl ⟨by rfl, ?yv0_3⟩) (by assumption) ?qv0_3
          case yv0_3 => (intro w hSw; (try dsimp only at hSw); go_simp)
          case qv0_3 =>
            (try simp only [Act.put]); (try simp only [List.setIfInBounds_toArray])
            refine wpAnyH_take (i := 3) (v := (.slice (some ⟨gu, 0, none⟩) i g.2.p.c)) rfl (by kernel_rfl) (by kernel_rfl) (by kernel_rfl) (fun _ _ _ h => h) (Or.inl ⟨by rfl, ?yv0_4⟩) (by assumption) ?qv0_4
            case yv0_4 => (intro w hSw; (try dsimp only at hSw); go_simp)
            case qv0_4 =>
              (try simp only [Act.put]); (try simp only [List.setIfInBounds_toArray])
              refine wpAnyH_take (i := 4) (v := (.pointer (some ⟨w.heap.size, 3, none⟩))) rfl (by kernel_rfl) (by kernel_rfl) (by kernel_rfl) (fun _ _ _ h => h) (Or.inl ⟨by rfl, ?yv0_5⟩) (by assumption) ?qv0_5
              case yv0_5 => (intro w hSw; (try dsimp only at hSw); go_simp)
              case qv0_5 =>
                (try simp only [Act.put]); (try simp only [List.setIfInBounds_toArray])
                refine wpAnyH_take (i := 5) (v := (.slice (some ⟨gu, 0, none⟩) g.2.p.n g.2.p.c)) rfl (by kernel_rfl) (by kernel_rfl) (by kernel_rfl) (fun _ _ _ h => h) (Or.inl ⟨by rfl, ?yv0_6⟩) (by assumption) ?qv0_6
                case yv0_6 => (intro w hSw; (try dsimp only at hSw); go_simp)
                case qv0_6 =>
                  (try simp only [Act.put]); (try simp only [List.setIfInBounds_toArray])
                  refine wpAnyH_take (i := 6) (v := (.int .i64 i)) rfl (by kernel_rfl) (by kernel_rfl) (by kernel_rfl) (fun _ _ _ h => h) (Or.inl ⟨by rfl, ?yv0_7⟩) (by assumption) ?qv0_7
                  case yv0_7 => (intro w hSw; (try dsimp only at hSw); go_simp)
                  case qv0_7 =>
                    (try simp only [Act.put]); (try simp only [List.setIfInBounds_toArray])
                    refine wpAnyH_take (i := 7) (v := (.int .i64 ((i : Int) + 1))) rfl (by kernel_rfl) (by kernel_rfl) (by kernel_rfl) (fun _ _ _ h => h) (Or.inl ⟨by rfl, ?yv0_8⟩) (by assumption) ?qv0_8
                    case yv0_8 => (intro w hSw; (try dsimp only at hSw); go_simp)
                    case qv0_8 =>
                      (try simp only [Act.put]); (try simp only [List.setIfInBounds_toArray])
                      refine wpAnyH_take (i := 8) (v := (.slice (some ⟨gu, p, none⟩) (g.2.p.n - (i + 1)) (g.2.p.c - (i + 1)))) rfl (by kernel_rfl) (by kernel_rfl) (by kernel_rfl) (fun _ _ _ h => h) (Or.inl ⟨by rfl, ?yv0_9⟩) (by assumption) ?qv0_9
                      case yv0_9 => (intro w hSw; (try dsimp only at hSw); go_simp)
                      case qv0_9 =>
                        (try simp only [Act.put]); (try simp only [List.setIfInBounds_toArray])
                        refine wpAnyH_done (by kernel_rfl) ?_ _
                        clear hHeld hp1
                        show wpList _ _ _ _ _ _
                        go_wp2_with (first | (at_builtin; with_reducible show wpList _ _ _ (⟨some 39, _, _, _, _, _⟩ :: _) _ _; go_must (refine app_cut (C := pdC) (s := 2) (fun _ => rfl) (one_of one_pdC) (o := ⟨some 39, _, _, _, _, _⟩) rfl (.tmp 33) (.tmp 38) _ rfl B 85 i1 _ 24 Tryz.underlying43 hi1 hz1 hs1 hbb1 rfl (by decide) (by decide) HO2.out (by omega) i p hin HP2.out (by go_simp) (by go_simp) (by have := HS2.out.gr.size; have := HB.out; omega) ?_); go_must (intro A' c' Yn hownN hgrN; have HG : Hid (World.grownBy _ Yn (Value.ownBlock (.slice g.2.p.A g.2.p.n g.2.p.c))) := Lib.hid (by rw [HA.out]; exact hgrN); have HEN := Lib.hid (fcut_p HS2.out HB.out i (by rw [List.length_eraseIdx_of_lt (by have := HYL.out; omega)]; have := HYL.out; omega) hownN HG.out); have HMn := HS2.out.a.grown hgrN (Ne.symm (own_blk_ne HO2.out HS2.out.a (by decide))); have s1 := (HMn.cell 3).trans (show _ = some (.slice g.2.p.A g.2.p.n g.2.p.c) from rfl); have s2 := HMn.frozen 3; have HSB := Lib.hid HEN.out.b; have e0 := (HEN.out.a.cell 0).trans (show _ = some (.string g.1.name) from rfl); have e1 := (HEN.out.a.cell 1).trans (show _ = some (.string g.1.super) from rfl); have e2 := (HEN.out.a.cell 2).trans (show _ = some (.bool g.1.abs) from rfl); have e3 := (HEN.out.a.cell 3).trans (show _ = some (.slice A' (g.2.p.n - 1) c') from rfl); have e4 := (HEN.out.a.cell 4).trans (show _ = some (.slice g.2.k.A g.2.k.n g.2.k.c) from rfl); have e5 := (HEN.out.a.cell 5).trans (show _ = some (.slice g.2.r.A g.2.r.n g.2.r.c) from rfl); clear hownN hgrN HMn)) | ((with_reducible show wpList _ _ _ (Oper.mk _ (Op.store 47 _ _) _ _ _ _ :: _) _ _); go_must (refine wpList_store_row rfl _ _ _ rfl (w.heap.size + 1) _ rfl rfl 47 _ HSB.out infoConF rfl con_oneF ?_)))
                        have hres : Tryz.f26.results = #[.cell 4 47] := by kernel_rfl
                        (try rw [Exit.noGoto_ret])
                        (try simp only [Exit.inBlock, Exit.then])
                        refine bodyPost_ret (results_rowF hres _ _ (w.heap.size + 1) _ rfl (load_conF (setRow_heap _ _ _ _ _ _ HSB.out))) rfl ?_
                        exact FEnd.tell (h := ({ g.1 with props := g.1.props.eraseIdx i }, { g.2 with p := ⟨A', g.2.p.n - 1, c'⟩ })) HEN.out _
  · by_cases h2 : m < g.2.p.n + g.2.k.n
    · obtain ⟨i, hi⟩ : ∃ i, i = m - g.2.p.n := ⟨_, rfl⟩
      have hin : i < g.2.k.n := by omega
      have hwA : IntKind.i64.wrap ((m : Int) - g.2.p.n) = (i : Int) := by rw [show (m : Int) - g.2.p.n = (i : Int) from by omega]; exact IntWalk.i64_in _ (by omega)
      clear hi
      go_upto_region 6 with (fail)
      have HOw := Lib.hid HS.out.o.k
      obtain ⟨gu, hA⟩ := own_some HOw.out (Nat.lt_of_le_of_lt (Nat.zero_le _) hin)
      replace HOw := Lib.hid (own_addr HOw.out hA)
      have hnc := (own_row HOw.out).2.1
      have hcm := (own_row HOw.out).2.2.1
      unfold maxLen at hcm
      have HSo : Hid (∀ Y, Blk Y w.heap.size 47 #[.string g.1.name, .string g.1.super, .bool g.1.abs, .slice g.2.p.A g.2.p.n g.2.p.c, .slice g.2.k.A g.2.k.n g.2.k.c, .slice g.2.r.A g.2.r.n g.2.r.c] → (Y.cell? ⟨w.heap.size, 4, none⟩ = some (.slice (some ⟨gu, 0, none⟩) g.2.k.n g.2.k.c))) := Lib.hid fun Y h2 => (h2.cell 4).trans (by rw [← hA]; rfl)
      have hw1 : IntKind.i64.wrap ((i : Int) + 1) = (i : Int) + 1 := IntWalk.i64_in _ (by omega)
      have hic : i ≤ g.2.k.c := by omega
      have hb1 : (0 : Int) ≤ (i : Int) + 1 ∧ (i : Int) + 1 ≤ (g.2.k.n : Int) := by omega
      obtain ⟨p, hp1, hp2⟩ := behind_at gu g.2.k.n g.2.k.c i 4 hnc hin
      have HP2 := Lib.hid hp2
      have HA := Lib.hid hA
      have HYL : Hid (g.2.k.n = g.1.kids.length) := Lib.hid HS.out.o.kn
      obtain ⟨i1, hi1, hz1, hs1, hbb1⟩ := info_parts info_kd
      clear hp2 hA
      refine wp_region_held_tail 13 (fun Y => Y.cell? ⟨w.heap.size, 4, none⟩ = some (.slice (some ⟨gu, 0, none⟩) g.2.k.n g.2.k.c)) (by kernel_rfl) (by kernel_rfl) ?hSv1 (fun hHeld => ?qv01)
      case hSv1 => exact HSo.out _ HS.out.a
      case qv01 =>
        simp only [List.take_succ_cons, List.take_zero, List.drop_succ_cons, List.drop_zero]
        have HS2 := Lib.hid (HS.out.drew)
        have HO2 : Hid (wc.drew.ownsRow B 62 4 (.slice (some ⟨gu, 0, none⟩) g.2.k.n g.2.k.c) g.2.k.n (g.1.kids.flatMap kdC)) := Lib.hid HOw.out
        refine wpAnyH_take (i := 0) (v := (.pointer (some ⟨w.heap.size, 4, none⟩))) rfl (by kernel_rfl) (by kernel_rfl) (by kernel_rfl) (fun _ _ _ h => h) (Or.inl ⟨by rfl, ?yv1_1⟩) (by assumption) ?qv1_1
        case yv1_1 => (intro w hSw; (try dsimp only at hSw); go_simp)
        case qv1_1 =>
          (try simp only [Act.put]); (try simp only [List.setIfInBounds_toArray])
          refine wpAnyH_take (i := 1) (v := (.slice (some ⟨gu, 0, none⟩) g.2.k.n g.2.k.c)) rfl (by kernel_rfl) (by kernel_rfl) (by kernel_rfl) (fun _ _ _ h => h) (Or.inl ⟨by rfl, ?yv1_2⟩) (by assumption) ?qv1_2
          case yv1_2 => (intro w hSw; (try dsimp only at hSw); go_simp)
          case qv1_2 =>
            (try simp only [Act.put]); (try simp only [List.setIfInBounds_toArray])
            refine wpAnyH_take (i := 2) (v := (.int .i64 m)) rfl (by kernel_rfl) (by kernel_rfl) (by kernel_rfl) (fun _ _ _ h => h) (Or.inl ⟨by rfl, ?yv1_3⟩) (by assumption) ?qv1_3
            case yv1_3 => (intro w hSw; (try dsimp only at hSw); go_simp)
            case qv1_3 =>
              (try simp only [Act.put]); (try simp only [List.setIfInBounds_toArray])
              refine wpAnyH_take (i := 3) (v := (.int .i64 g.2.p.n)) rfl (by kernel_rfl) (by kernel_rfl) (by kernel_rfl) (fun _ _ _ h => h) (Or.inl ⟨by rfl, ?yv1_4⟩) (by assumption) ?qv1_4
              case yv1_4 => (intro w hSw; (try dsimp only at hSw); go_simp)
              case qv1_4 =>
                (try simp only [Act.put]); (try simp only [List.setIfInBounds_toArray])
                refine wpAnyH_take (i := 4) (v := (.int .i64 i)) rfl (by kernel_rfl) (by kernel_rfl) (by kernel_rfl) (fun _ _ _ h => h) (Or.inl ⟨by rfl, ?yv1_5⟩) (by assumption) ?qv1_5
                case yv1_5 => (intro w hSw; (try dsimp only at hSw); go_simp)
                case qv1_5 =>
                  (try simp only [Act.put]); (try simp only [List.setIfInBounds_toArray])
                  refine wpAnyH_take (i := 5) (v := (.slice (some ⟨gu, 0, none⟩) i g.2.k.c)) rfl (by kernel_rfl) (by kernel_rfl) (by kernel_rfl) (fun _ _ _ h => h) (Or.inl ⟨by rfl, ?yv1_6⟩) (by assumption) ?qv1_6
                  case yv1_6 => (intro w hSw; (try dsimp only at hSw); go_simp)
                  case qv1_6 =>
                    (try simp only [Act.put]); (try simp only [List.setIfInBounds_toArray])
                    refine wpAnyH_take (i := 6) (v := (.pointer (some ⟨w.heap.size, 4, none⟩))) rfl (by kernel_rfl) (by kernel_rfl) (by kernel_rfl) (fun _ _ _ h => h) (Or.inl ⟨by rfl, ?yv1_7⟩) (by assumption) ?qv1_7
                    case yv1_7 => (intro w hSw; (try dsimp only at hSw); go_simp)
                    case qv1_7 =>
                      (try simp only [Act.put]); (try simp only [List.setIfInBounds_toArray])
                      refine wpAnyH_take (i := 7) (v := (.slice (some ⟨gu, 0, none⟩) g.2.k.n g.2.k.c)) rfl (by kernel_rfl) (by kernel_rfl) (by kernel_rfl) (fun _ _ _ h => h) (Or.inl ⟨by rfl, ?yv1_8⟩) (by assumption) ?qv1_8
                      case yv1_8 => (intro w hSw; (try dsimp only at hSw); go_simp)
                      case qv1_8 =>
                        (try simp only [Act.put]); (try simp only [List.setIfInBounds_toArray])
                        refine wpAnyH_take (i := 8) (v := (.int .i64 m)) rfl (by kernel_rfl) (by kernel_rfl) (by kernel_rfl) (fun _ _ _ h => h) (Or.inl ⟨by rfl, ?yv1_9⟩) (by assumption) ?qv1_9
                        case yv1_9 => (intro w hSw; (try dsimp only at hSw); go_simp)
                        case qv1_9 =>
                          (try simp only [Act.put]); (try simp only [List.setIfInBounds_toArray])
                          refine wpAnyH_take (i := 9) (v := (.int .i64 g.2.p.n)) rfl (by kernel_rfl) (by kernel_rfl) (by kernel_rfl) (fun _ _ _ h => h) (Or.inl ⟨by rfl, ?yv1_10⟩) (by assumption) ?qv1_10
                          case yv1_10 => (intro w hSw; (try dsimp only at hSw); go_simp)
                          case qv1_10 =>
                            (try simp only [Act.put]); (try simp only [List.setIfInBounds_toArray])
                            refine wpAnyH_take (i := 10) (v := (.int .i64 i)) rfl (by kernel_rfl) (by kernel_rfl) (by kernel_rfl) (fun _ _ _ h => h) (Or.inl ⟨by rfl, ?yv1_11⟩) (by assumption) ?qv1_11
                            case yv1_11 => (intro w hSw; (try dsimp only at hSw); go_simp)
                            case qv1_11 =>
                              (try simp only [Act.put]); (try simp only [List.setIfInBounds_toArray])
                              refine wpAnyH_take (i := 11) (v := (.int .i64 ((i : Int) + 1))) rfl (by kernel_rfl) (by kernel_rfl) (by kernel_rfl) (fun _ _ _ h => h) (Or.inl ⟨by rfl, ?yv1_12⟩) (by assumption) ?qv1_12
                              case yv1_12 => (intro w hSw; (try dsimp only at hSw); go_simp)
                              case qv1_12 =>
                                (try simp only [Act.put]); (try simp only [List.setIfInBounds_toArray])
                                refine wpAnyH_take (i := 12) (v := (.slice (some ⟨gu, p, none⟩) (g.2.k.n - (i + 1)) (g.2.k.c - (i + 1)))) rfl (by kernel_rfl) (by kernel_rfl) (by kernel_rfl) (fun _ _ _ h => h) (Or.inl ⟨by rfl, ?yv1_13⟩) (by assumption) ?qv1_13
                                case yv1_13 => (intro w hSw; (try dsimp only at hSw); go_simp)
                                case qv1_13 =>
                                  (try simp only [Act.put]); (try simp only [List.setIfInBounds_toArray])
                                  refine wpAnyH_done (by kernel_rfl) ?_ _
                                  clear hHeld hp1
                                  show wpList _ _ _ _ _ _
                                  go_wp2_with (first | (at_builtin; with_reducible show wpList _ _ _ (⟨some 60, _, _, _, _, _⟩ :: _) _ _; go_must (refine app_cut (C := kdC) (s := 4) (fun _ => rfl) (one_of one_kdC) (o := ⟨some 60, _, _, _, _, _⟩) rfl (.tmp 52) (.tmp 59) _ rfl B 62 i1 _ 48 Tryz.underlying44 hi1 hz1 hs1 hbb1 rfl (by decide) (by decide) HO2.out (by omega) i p hin HP2.out (by go_simp) (by go_simp) (by have := HS2.out.gr.size; have := HB.out; omega) ?_); go_must (intro A' c' Yn hownN hgrN; have HG : Hid (World.grownBy _ Yn (Value.ownBlock (.slice g.2.k.A g.2.k.n g.2.k.c))) := Lib.hid (by rw [HA.out]; exact hgrN); have HEN := Lib.hid (fcut_k HS2.out HB.out i (by rw [List.length_eraseIdx_of_lt (by have := HYL.out; omega)]; have := HYL.out; omega) hownN HG.out); have HMn := HS2.out.a.grown hgrN (Ne.symm (own_blk_ne HO2.out HS2.out.a (by decide))); have s1 := (HMn.cell 4).trans (show _ = some (.slice g.2.k.A g.2.k.n g.2.k.c) from rfl); have s2 := HMn.frozen 4; have HSB := Lib.hid HEN.out.b; have e0 := (HEN.out.a.cell 0).trans (show _ = some (.string g.1.name) from rfl); have e1 := (HEN.out.a.cell 1).trans (show _ = some (.string g.1.super) from rfl); have e2 := (HEN.out.a.cell 2).trans (show _ = some (.bool g.1.abs) from rfl); have e3 := (HEN.out.a.cell 3).trans (show _ = some (.slice g.2.p.A g.2.p.n g.2.p.c) from rfl); have e4 := (HEN.out.a.cell 4).trans (show _ = some (.slice A' (g.2.k.n - 1) c') from rfl); have e5 := (HEN.out.a.cell 5).trans (show _ = some (.slice g.2.r.A g.2.r.n g.2.r.c) from rfl); clear hownN hgrN HMn)) | ((with_reducible show wpList _ _ _ (Oper.mk _ (Op.store 47 _ _) _ _ _ _ :: _) _ _); go_must (refine wpList_store_row rfl _ _ _ rfl (w.heap.size + 1) _ rfl rfl 47 _ HSB.out infoConF rfl con_oneF ?_)))
                                  have hres : Tryz.f26.results = #[.cell 4 47] := by kernel_rfl
                                  (try rw [Exit.noGoto_ret])
                                  (try simp only [Exit.inBlock, Exit.then])
                                  refine bodyPost_ret (results_rowF hres _ _ (w.heap.size + 1) _ rfl (load_conF (setRow_heap _ _ _ _ _ _ HSB.out))) rfl ?_
                                  exact FEnd.tell (h := ({ g.1 with kids := g.1.kids.eraseIdx i }, { g.2 with k := ⟨A', g.2.k.n - 1, c'⟩ })) HEN.out _
    · by_cases h3 : m < g.2.p.n + g.2.k.n + g.2.r.n
      · obtain ⟨j, hj⟩ : ∃ j, j = m - g.2.p.n := ⟨_, rfl⟩
        obtain ⟨i, hi⟩ : ∃ i, i = j - g.2.k.n := ⟨_, rfl⟩
        have hin : i < g.2.r.n := by omega
        have hwA : IntKind.i64.wrap ((m : Int) - g.2.p.n) = (j : Int) := by rw [show (m : Int) - g.2.p.n = (j : Int) from by omega]; exact IntWalk.i64_in _ (by omega)
        have hwB : IntKind.i64.wrap ((j : Int) - g.2.k.n) = (i : Int) := by rw [show (j : Int) - g.2.k.n = (i : Int) from by omega]; exact IntWalk.i64_in _ (by omega)
        clear hi hj
        go_upto_region 8 with (fail)
        have HOw := Lib.hid HS.out.o.r
        obtain ⟨gu, hA⟩ := own_some HOw.out (Nat.lt_of_le_of_lt (Nat.zero_le _) hin)
        replace HOw := Lib.hid (own_addr HOw.out hA)
        have hnc := (own_row HOw.out).2.1
        have hcm := (own_row HOw.out).2.2.1
        unfold maxLen at hcm
        have HSo : Hid (∀ Y, Blk Y w.heap.size 47 #[.string g.1.name, .string g.1.super, .bool g.1.abs, .slice g.2.p.A g.2.p.n g.2.p.c, .slice g.2.k.A g.2.k.n g.2.k.c, .slice g.2.r.A g.2.r.n g.2.r.c] → (Y.cell? ⟨w.heap.size, 5, none⟩ = some (.slice (some ⟨gu, 0, none⟩) g.2.r.n g.2.r.c))) := Lib.hid fun Y h2 => (h2.cell 5).trans (by rw [← hA]; rfl)
        have hw1 : IntKind.i64.wrap ((i : Int) + 1) = (i : Int) + 1 := IntWalk.i64_in _ (by omega)
        have hic : i ≤ g.2.r.c := by omega
        have hb1 : (0 : Int) ≤ (i : Int) + 1 ∧ (i : Int) + 1 ≤ (g.2.r.n : Int) := by omega
        obtain ⟨p, hp1, hp2⟩ := behind_at gu g.2.r.n g.2.r.c i 3 hnc hin
        have HP2 := Lib.hid hp2
        have HA := Lib.hid hA
        have HYL : Hid (g.2.r.n = g.1.refs.length) := Lib.hid HS.out.o.rn
        obtain ⟨i1, hi1, hz1, hs1, hbb1⟩ := info_parts info_rd
        clear hp2 hA
        refine wp_region_held_tail 17 (fun Y => Y.cell? ⟨w.heap.size, 5, none⟩ = some (.slice (some ⟨gu, 0, none⟩) g.2.r.n g.2.r.c)) (by kernel_rfl) (by kernel_rfl) ?hSv2 (fun hHeld => ?qv02)
        case hSv2 => exact HSo.out _ HS.out.a
        case qv02 =>
          simp only [List.take_succ_cons, List.take_zero, List.drop_succ_cons, List.drop_zero]
          have HS2 := Lib.hid (HS.out.drew)
          have HO2 : Hid (wc.drew.ownsRow B 87 3 (.slice (some ⟨gu, 0, none⟩) g.2.r.n g.2.r.c) g.2.r.n (g.1.refs.flatMap rdC)) := Lib.hid HOw.out
          refine wpAnyH_take (i := 0) (v := (.pointer (some ⟨w.heap.size, 5, none⟩))) rfl (by kernel_rfl) (by kernel_rfl) (by kernel_rfl) (fun _ _ _ h => h) (Or.inl ⟨by rfl, ?yv2_1⟩) (by assumption) ?qv2_1
          case yv2_1 => (intro w hSw; (try dsimp only at hSw); go_simp)
          case qv2_1 =>
            (try simp only [Act.put]); (try simp only [List.setIfInBounds_toArray])
            refine wpAnyH_take (i := 1) (v := (.slice (some ⟨gu, 0, none⟩) g.2.r.n g.2.r.c)) rfl (by kernel_rfl) (by kernel_rfl) (by kernel_rfl) (fun _ _ _ h => h) (Or.inl ⟨by rfl, ?yv2_2⟩) (by assumption) ?qv2_2
            case yv2_2 => (intro w hSw; (try dsimp only at hSw); go_simp)
            case qv2_2 =>
              (try simp only [Act.put]); (try simp only [List.setIfInBounds_toArray])
              refine wpAnyH_take (i := 2) (v := (.int .i64 m)) rfl (by kernel_rfl) (by kernel_rfl) (by kernel_rfl) (fun _ _ _ h => h) (Or.inl ⟨by rfl, ?yv2_3⟩) (by assumption) ?qv2_3
              case yv2_3 => (intro w hSw; (try dsimp only at hSw); go_simp)
              case qv2_3 =>
                (try simp only [Act.put]); (try simp only [List.setIfInBounds_toArray])
                refine wpAnyH_take (i := 3) (v := (.int .i64 g.2.p.n)) rfl (by kernel_rfl) (by kernel_rfl) (by kernel_rfl) (fun _ _ _ h => h) (Or.inl ⟨by rfl, ?yv2_4⟩) (by assumption) ?qv2_4
                case yv2_4 => (intro w hSw; (try dsimp only at hSw); go_simp)
                case qv2_4 =>
                  (try simp only [Act.put]); (try simp only [List.setIfInBounds_toArray])
                  refine wpAnyH_take (i := 4) (v := (.int .i64 j)) rfl (by kernel_rfl) (by kernel_rfl) (by kernel_rfl) (fun _ _ _ h => h) (Or.inl ⟨by rfl, ?yv2_5⟩) (by assumption) ?qv2_5
                  case yv2_5 => (intro w hSw; (try dsimp only at hSw); go_simp)
                  case qv2_5 =>
                    (try simp only [Act.put]); (try simp only [List.setIfInBounds_toArray])
                    refine wpAnyH_take (i := 5) (v := (.int .i64 g.2.k.n)) rfl (by kernel_rfl) (by kernel_rfl) (by kernel_rfl) (fun _ _ _ h => h) (Or.inl ⟨by rfl, ?yv2_6⟩) (by assumption) ?qv2_6
                    case yv2_6 => (intro w hSw; (try dsimp only at hSw); go_simp)
                    case qv2_6 =>
                      (try simp only [Act.put]); (try simp only [List.setIfInBounds_toArray])
                      refine wpAnyH_take (i := 6) (v := (.int .i64 i)) rfl (by kernel_rfl) (by kernel_rfl) (by kernel_rfl) (fun _ _ _ h => h) (Or.inl ⟨by rfl, ?yv2_7⟩) (by assumption) ?qv2_7
                      case yv2_7 => (intro w hSw; (try dsimp only at hSw); go_simp)
                      case qv2_7 =>
                        (try simp only [Act.put]); (try simp only [List.setIfInBounds_toArray])
                        refine wpAnyH_take (i := 7) (v := (.slice (some ⟨gu, 0, none⟩) i g.2.r.c)) rfl (by kernel_rfl) (by kernel_rfl) (by kernel_rfl) (fun _ _ _ h => h) (Or.inl ⟨by rfl, ?yv2_8⟩) (by assumption) ?qv2_8
                        case yv2_8 => (intro w hSw; (try dsimp only at hSw); go_simp)
                        case qv2_8 =>
                          (try simp only [Act.put]); (try simp only [List.setIfInBounds_toArray])
                          refine wpAnyH_take (i := 8) (v := (.pointer (some ⟨w.heap.size, 5, none⟩))) rfl (by kernel_rfl) (by kernel_rfl) (by kernel_rfl) (fun _ _ _ h => h) (Or.inl ⟨by rfl, ?yv2_9⟩) (by assumption) ?qv2_9
                          case yv2_9 => (intro w hSw; (try dsimp only at hSw); go_simp)
                          case qv2_9 =>
                            (try simp only [Act.put]); (try simp only [List.setIfInBounds_toArray])
                            refine wpAnyH_take (i := 9) (v := (.slice (some ⟨gu, 0, none⟩) g.2.r.n g.2.r.c)) rfl (by kernel_rfl) (by kernel_rfl) (by kernel_rfl) (fun _ _ _ h => h) (Or.inl ⟨by rfl, ?yv2_10⟩) (by assumption) ?qv2_10
                            case yv2_10 => (intro w hSw; (try dsimp only at hSw); go_simp)
                            case qv2_10 =>
                              (try simp only [Act.put]); (try simp only [List.setIfInBounds_toArray])
                              refine wpAnyH_take (i := 10) (v := (.int .i64 m)) rfl (by kernel_rfl) (by kernel_rfl) (by kernel_rfl) (fun _ _ _ h => h) (Or.inl ⟨by rfl, ?yv2_11⟩) (by assumption) ?qv2_11
                              case yv2_11 => (intro w hSw; (try dsimp only at hSw); go_simp)
                              case qv2_11 =>
                                (try simp only [Act.put]); (try simp only [List.setIfInBounds_toArray])
                                refine wpAnyH_take (i := 11) (v := (.int .i64 g.2.p.n)) rfl (by kernel_rfl) (by kernel_rfl) (by kernel_rfl) (fun _ _ _ h => h) (Or.inl ⟨by rfl, ?yv2_12⟩) (by assumption) ?qv2_12
                                case yv2_12 => (intro w hSw; (try dsimp only at hSw); go_simp)
                                case qv2_12 =>
                                  (try simp only [Act.put]); (try simp only [List.setIfInBounds_toArray])
                                  refine wpAnyH_take (i := 12) (v := (.int .i64 j)) rfl (by kernel_rfl) (by kernel_rfl) (by kernel_rfl) (fun _ _ _ h => h) (Or.inl ⟨by rfl, ?yv2_13⟩) (by assumption) ?qv2_13
                                  case yv2_13 => (intro w hSw; (try dsimp only at hSw); go_simp)
                                  case qv2_13 =>
                                    (try simp only [Act.put]); (try simp only [List.setIfInBounds_toArray])
                                    refine wpAnyH_take (i := 13) (v := (.int .i64 g.2.k.n)) rfl (by kernel_rfl) (by kernel_rfl) (by kernel_rfl) (fun _ _ _ h => h) (Or.inl ⟨by rfl, ?yv2_14⟩) (by assumption) ?qv2_14
                                    case yv2_14 => (intro w hSw; (try dsimp only at hSw); go_simp)
                                    case qv2_14 =>
                                      (try simp only [Act.put]); (try simp only [List.setIfInBounds_toArray])
                                      refine wpAnyH_take (i := 14) (v := (.int .i64 i)) rfl (by kernel_rfl) (by kernel_rfl) (by kernel_rfl) (fun _ _ _ h => h) (Or.inl ⟨by rfl, ?yv2_15⟩) (by assumption) ?qv2_15
                                      case yv2_15 => (intro w hSw; (try dsimp only at hSw); go_simp)
                                      case qv2_15 =>
                                        (try simp only [Act.put]); (try simp only [List.setIfInBounds_toArray])
                                        refine wpAnyH_take (i := 15) (v := (.int .i64 ((i : Int) + 1))) rfl (by kernel_rfl) (by kernel_rfl) (by kernel_rfl) (fun _ _ _ h => h) (Or.inl ⟨by rfl, ?yv2_16⟩) (by assumption) ?qv2_16
                                        case yv2_16 => (intro w hSw; (try dsimp only at hSw); go_simp)
                                        case qv2_16 =>
                                          (try simp only [Act.put]); (try simp only [List.setIfInBounds_toArray])
                                          refine wpAnyH_take (i := 16) (v := (.slice (some ⟨gu, p, none⟩) (g.2.r.n - (i + 1)) (g.2.r.c - (i + 1)))) rfl (by kernel_rfl) (by kernel_rfl) (by kernel_rfl) (fun _ _ _ h => h) (Or.inl ⟨by rfl, ?yv2_17⟩) (by assumption) ?qv2_17
                                          case yv2_17 => (intro w hSw; (try dsimp only at hSw); go_simp)
                                          case qv2_17 =>
                                            (try simp only [Act.put]); (try simp only [List.setIfInBounds_toArray])
                                            refine wpAnyH_done (by kernel_rfl) ?_ _
                                            clear hHeld hp1
                                            show wpList _ _ _ _ _ _
                                            go_wp2_with (first | (at_builtin; with_reducible show wpList _ _ _ (⟨some 87, _, _, _, _, _⟩ :: _) _ _; go_must (refine app_cut (C := rdC) (s := 3) (fun _ => rfl) (one_of one_rdC) (o := ⟨some 87, _, _, _, _, _⟩) rfl (.tmp 77) (.tmp 86) _ rfl B 87 i1 _ 40 Tryz.underlying45 hi1 hz1 hs1 hbb1 rfl (by decide) (by decide) HO2.out (by omega) i p hin HP2.out (by go_simp) (by go_simp) (by have := HS2.out.gr.size; have := HB.out; omega) ?_); go_must (intro A' c' Yn hownN hgrN; have HG : Hid (World.grownBy _ Yn (Value.ownBlock (.slice g.2.r.A g.2.r.n g.2.r.c))) := Lib.hid (by rw [HA.out]; exact hgrN); have HEN := Lib.hid (fcut_r HS2.out HB.out i (by rw [List.length_eraseIdx_of_lt (by have := HYL.out; omega)]; have := HYL.out; omega) hownN HG.out); have HMn := HS2.out.a.grown hgrN (Ne.symm (own_blk_ne HO2.out HS2.out.a (by decide))); have s1 := (HMn.cell 5).trans (show _ = some (.slice g.2.r.A g.2.r.n g.2.r.c) from rfl); have s2 := HMn.frozen 5; have HSB := Lib.hid HEN.out.b; have e0 := (HEN.out.a.cell 0).trans (show _ = some (.string g.1.name) from rfl); have e1 := (HEN.out.a.cell 1).trans (show _ = some (.string g.1.super) from rfl); have e2 := (HEN.out.a.cell 2).trans (show _ = some (.bool g.1.abs) from rfl); have e3 := (HEN.out.a.cell 3).trans (show _ = some (.slice g.2.p.A g.2.p.n g.2.p.c) from rfl); have e4 := (HEN.out.a.cell 4).trans (show _ = some (.slice g.2.k.A g.2.k.n g.2.k.c) from rfl); have e5 := (HEN.out.a.cell 5).trans (show _ = some (.slice A' (g.2.r.n - 1) c') from rfl); clear hownN hgrN HMn)) | ((with_reducible show wpList _ _ _ (Oper.mk _ (Op.store 47 _ _) _ _ _ _ :: _) _ _); go_must (refine wpList_store_row rfl _ _ _ rfl (w.heap.size + 1) _ rfl rfl 47 _ HSB.out infoConF rfl con_oneF ?_)))
                                            have hres : Tryz.f26.results = #[.cell 4 47] := by kernel_rfl
                                            (try rw [Exit.noGoto_ret])
                                            (try simp only [Exit.inBlock, Exit.then])
                                            refine bodyPost_ret (results_rowF hres _ _ (w.heap.size + 1) _ rfl (load_conF (setRow_heap _ _ _ _ _ _ HSB.out))) rfl ?_
                                            exact FEnd.tell (h := ({ g.1 with refs := g.1.refs.eraseIdx i }, { g.2 with r := ⟨A', g.2.r.n - 1, c'⟩ })) HEN.out _
      · have HSB := Lib.hid HS.out.b
        have HEN := Lib.hid HS.out.whole
        have a0 := (HS.out.a.cell 0).trans (show _ = some (.string g.1.name) from rfl)
        have a1 := (HS.out.a.cell 1).trans (show _ = some (.string g.1.super) from rfl)
        have a2 := (HS.out.a.cell 2).trans (show _ = some (.bool g.1.abs) from rfl)
        have a3 := (HS.out.a.cell 3).trans (show _ = some (.slice g.2.p.A g.2.p.n g.2.p.c) from rfl)
        have a4 := (HS.out.a.cell 4).trans (show _ = some (.slice g.2.k.A g.2.k.n g.2.k.c) from rfl)
        have a5 := (HS.out.a.cell 5).trans (show _ = some (.slice g.2.r.A g.2.r.n g.2.r.c) from rfl)
        go_wp2_with ((with_reducible show wpList _ _ _ (Oper.mk _ (Op.store 47 _ _) _ _ _ _ :: _) _ _); go_must (refine wpList_store_row rfl _ _ _ rfl (w.heap.size + 1) _ rfl rfl 47 _ HSB.out infoConF rfl con_oneF ?_))
        have hres : Tryz.f26.results = #[.cell 4 47] := by kernel_rfl
        (try rw [Exit.noGoto_ret])
        (try simp only [Exit.inBlock, Exit.then])
        refine bodyPost_ret (results_rowF hres _ _ (w.heap.size + 1) _ rfl (load_conF (setRow_heap _ _ _ _ _ _ HSB.out))) rfl ?_
        exact FEnd.tell (h := g) HEN.out _
end Go.Proofs.YtilemieknfdjnaaGreat

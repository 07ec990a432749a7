/-
  PLAIN: what acts make, one behind the other: it stays right, and its lists stay short.
  WALKS: built.
  PLAIN: the chapter's first rows.
-/
import Derived.Test.YtbkmdlfenbfdlaaGreatZC24
import Derived.KernelRfl
namespace Go.Proofs.YtbkmdlfenbfdlaaGreat
open Go Go.RowKit
set_option linter.unusedVariables false
section
variable {next : Int} {nds : List Nd}
theorem resR_ok {nx er : Int} {nds' : List Nd} (h : (resR nx er nds').2.1 = 0) : er = 0 ∧ resR nx er nds' = (nx, 0, nds') := by
  unfold resR at h ⊢
  by_cases h0 : er = 0
  · rw [if_pos h0]; exact ⟨h0, rfl⟩
  · rw [if_neg h0] at h; exact absurd h h0
/-- an act leaves a right model right, and its Next never falls -/
theorem TM.act (h : TM next nds) (x : Ac) (he : (actR next nds x).2.1 = 0) : TM (actR next nds x).1 (actR next nds x).2.2 ∧ next ≤ (actR next nds x).1 := by
  unfold actR actP at he ⊢
  split at he
  · rename_i hk
    obtain ⟨h0, e⟩ := resR_ok he
    rw [if_pos hk, e]
    exact ⟨h.add h0, by show next ≤ next + 1; omega⟩
  · rename_i hk1
    split at he
    · rename_i hk
      obtain ⟨h0, e⟩ := resR_ok he
      rw [if_neg hk1, if_pos hk, e]
      exact ⟨h.move h0, Int.le_refl _⟩
    · rename_i hk2
      split at he
      · rename_i hk
        obtain ⟨h0, e⟩ := resR_ok he
        rw [if_neg hk1, if_neg hk2, if_pos hk, e]
        exact ⟨h.copy h0, by show next ≤ next + _; omega⟩
      · rename_i hk3
        split at he
        · rename_i hk
          obtain ⟨h0, e⟩ := resR_ok he
          rw [if_neg hk1, if_neg hk2, if_neg hk3, if_pos hk, e]
          exact ⟨h.remove h0, Int.le_refl _⟩
        · rename_i hk4
          split at he
          · rename_i hk
            obtain ⟨h0, e⟩ := resR_ok he
            rw [if_neg hk1, if_neg hk2, if_neg hk3, if_neg hk4, if_pos hk, e]
            exact ⟨h.put_ h0, Int.le_refl _⟩
          · rename_i hk5
            obtain ⟨h0, e⟩ := resR_ok he
            rw [if_neg hk1, if_neg hk2, if_neg hk3, if_neg hk4, if_neg hk5, e]
            exact ⟨h.aim_ h0, Int.le_refl _⟩
/-- lists of at most so many -/
def Bd (k : Nat) (nds : List Nd) : Prop := ∀ nd ∈ nds, nd.props.length ≤ k ∧ nd.refs.length ≤ k
theorem Bd.mono {k k' : Nat} (h : Bd k nds) (hk : k ≤ k') : Bd k' nds := fun nd hnd => ⟨Nat.le_trans (h nd hnd).1 hk, Nat.le_trans (h nd hnd).2 hk⟩
theorem Bd.map {k k' : Nat} {f : Nd → Nd} (h : Bd k nds) (hf : ∀ y, y.props.length ≤ k → y.refs.length ≤ k → (f y).props.length ≤ k' ∧ (f y).refs.length ≤ k') : Bd k' (nds.map f) := fun nd hnd => by
  obtain ⟨y, hy, rfl⟩ := List.mem_map.1 hnd
  exact hf y (h y hy).1 (h y hy).2
theorem insL_len {α : Type} (l : List α) (k : Nat) (x : α) : (insL l k x).length = l.length + 1 := by
  unfold insL
  have := (List.perm_middle (a := x) (l₁ := l.take k) (l₂ := l.drop k)).length_eq
  rw [List.take_append_drop] at this
  exact this
theorem putN_len (nd : Nd) (name val : ByteArray) : (putN nd name val).props.length ≤ nd.props.length + 1 := by
  unfold putN
  simp only
  split
  · rw [List.length_modify]; omega
  · rw [insL_len]; omega
theorem aimN_len (nd : Nd) (name : ByteArray) (val : Int) : (aimN nd name val).refs.length ≤ nd.refs.length + 1 := by
  unfold aimN
  simp only
  split
  · rw [List.length_modify]; omega
  · rw [insL_len]; omega
theorem Bd.putF {k : Nat} (h : Bd k nds) (id parent : Int) (role : ByteArray) (a : Nat) : Bd k (nds.map (putF id parent role a)) := h.map fun y h1 h2 => by
  obtain ⟨_, _, g3, g4⟩ := putF_same (id := id) (parent := parent) (role := role) (a := a) (y := y)
  rw [g3, g4]
  exact ⟨h1, h2⟩
theorem Bd.take {k : Nat} (h : Bd k nds) (id : Int) : Bd k (takeL nds id) := h.map fun y h1 h2 => by
  unfold takeF
  split <;> exact ⟨h1, h2⟩
theorem Bd.app {k : Nat} {cs : List Nd} (h : Bd k nds) (h' : Bd k cs) : Bd k (nds ++ cs) := fun nd hnd => by
  rcases List.mem_append.1 hnd with hnd | hnd
  · exact h nd hnd
  · exact h' nd hnd
theorem Bd.act {k : Nat} (hT : TM next nds) (h : Bd k nds) (x : Ac) (he : (actR next nds x).2.1 = 0) : Bd (k + 1) (actR next nds x).2.2 := by
  unfold actR actP at he ⊢
  split at he
  · rename_i hk
    obtain ⟨h0, e⟩ := resR_ok he
    rw [if_pos hk, e]
    obtain ⟨hr, hc, hw, ha⟩ := addE_ok h0
    obtain ⟨a1, _⟩ := admV_ok (admV_pair ha)
    show Bd _ (addL ..)
    rw [addL_put hT a1]
    exact ((h.mono (Nat.le_succ _)).app (fun nd hnd => by
      obtain rfl : nd = newNd _ _ := by simpa using hnd
      exact ⟨Nat.zero_le _, Nat.zero_le _⟩)).putF _ _ _ _
  · rename_i hk1
    split at he
    · rename_i hk
      obtain ⟨h0, e⟩ := resR_ok he
      rw [if_neg hk1, if_pos hk, e]
      show Bd _ (moveL ..)
      rw [moveL_put hT h0]
      exact ((h.mono (Nat.le_succ _)).take _).putF _ _ _ _
    · rename_i hk2
      split at he
      · rename_i hk
        obtain ⟨h0, e⟩ := resR_ok he
        rw [if_neg hk1, if_neg hk2, if_pos hk, e]
        show Bd _ (copyL ..)
        rw [copyL_put hT h0]
        refine ((h.mono (Nat.le_succ _)).app fun nd hnd => ?_).putF _ _ _ _
        obtain ⟨hr, hw, ⟨nd0, hx⟩, ha⟩ := copyE_ok h0
        obtain ⟨i, y, z, hy, hz, rfl⟩ := (cps_mem ((rightM hr).part hx).all).1 hnd
        have hzm := ((ndOf_mem (rightM hr).rise).1 hz).1
        have := h z hzm
        refine ⟨by show z.props.length ≤ _; omega, ?_⟩
        show (z.refs.map _).length ≤ _
        rw [List.length_map]; omega
      · rename_i hk3
        split at he
        · rename_i hk
          obtain ⟨h0, e⟩ := resR_ok he
          rw [if_neg hk1, if_neg hk2, if_neg hk3, if_pos hk, e]
          exact fun nd hnd => ((h.mono (Nat.le_succ _)).take _) nd (List.mem_filter.1 hnd).1
        · rename_i hk4
          split at he
          · rename_i hk
            obtain ⟨h0, e⟩ := resR_ok he
            rw [if_neg hk1, if_neg hk2, if_neg hk3, if_neg hk4, if_pos hk, e]
            show Bd _ (chL ..)
            rw [chL_map hT.riseR]
            refine h.map fun y h1 h2 => ?_
            split
            · have := putN_len y x.word x.text
              exact ⟨by omega, by show y.refs.length ≤ _; omega⟩
            · exact ⟨by omega, by omega⟩
          · rename_i hk5
            obtain ⟨h0, e⟩ := resR_ok he
            rw [if_neg hk1, if_neg hk2, if_neg hk3, if_neg hk4, if_neg hk5, e]
            show Bd _ (chL ..)
            rw [chL_map hT.riseR]
            refine h.map fun y h1 h2 => ?_
            split
            · have := aimN_len y x.word (pickV next nds x.b)
              exact ⟨by show y.props.length ≤ _; omega, by omega⟩
            · exact ⟨by omega, by omega⟩
theorem Bd.fits {k : Nat} (hT : TM next nds) (h : Bd k nds) (hk : k ≤ 100000) : ∀ nd ∈ nds, Fits 1 nd := fun nd hnd => by
  have h1 := h nd hnd
  have h2 := hT.kl hnd
  have h3 := hT.len
  exact ⟨by omega, by omega, by omega⟩
end
/-- a model behind an act -/
def stepM (s : Int × List Nd) (x : Ac) : Int × List Nd := if (actR s.1 s.2 x).2.1 = 0 then ((actR s.1 s.2 x).1, (actR s.1 s.2 x).2.2) else s
/-- .. behind acts -/
def runV : Nat → Int × List Nd → List Ac → Int × List Nd
  | _, s, [] => s
  | i, s, x :: r => if i < 150 ∧ s.2.length ≤ 300 then runV (i + 1) (stepM s x) r else s
def builtV (acts : List Ac) : Int × List Nd := runV 0 (1, []) acts
/-- right, and short -/
structure Okay (k : Nat) (s : Int × List Nd) : Prop where
  tm : TM s.1 s.2
  bd : Bd k s.2
theorem Okay.start : Okay 0 (1, []) := ⟨⟨by decide, by decide, by decide, by simp, by simp, by simp, by simp, by simp, by simp, fun _ => 0, rfl, by simp⟩, fun nd hnd => by cases hnd⟩
theorem Okay.step {k : Nat} {s : Int × List Nd} (h : Okay k s) (x : Ac) : Okay (k + 1) (stepM s x) ∧ s.1 ≤ (stepM s x).1 := by
  unfold stepM
  split
  · rename_i he
    exact ⟨⟨(h.tm.act x he).1, Bd.act h.tm h.bd x he⟩, (h.tm.act x he).2⟩
  · exact ⟨⟨h.tm, h.bd.mono (Nat.le_succ _)⟩, Int.le_refl _⟩
theorem Okay.mono {k k' : Nat} {s : Int × List Nd} (h : Okay k s) (hk : k ≤ k') : Okay k' s := ⟨h.tm, h.bd.mono hk⟩
theorem Okay.run : ∀ (r : List Ac) (i : Nat) (s : Int × List Nd), i ≤ 150 → Okay i s → Okay 150 (runV i s r)
  | [], i, s, hi, h => h.mono hi
  | x :: r, i, s, hi, h => by
    rw [runV]
    split
    · rename_i hc
      exact Okay.run r (i + 1) _ (by omega) (h.step x).1
    · exact h.mono hi
theorem built_okay (acts : List Ac) : Okay 150 (builtV acts) := Okay.run acts 0 _ (by decide) Okay.start
theorem Okay.fits {k : Nat} {s : Int × List Nd} (h : Okay k s) (hk : k ≤ 100000) : ∀ nd ∈ s.2, Fits 1 nd := h.bd.fits h.tm hk
end Go.Proofs.YtbkmdlfenbfdlaaGreat
namespace Go.Proofs.YtbkmdlfenbfdlaaGreat
open Go Go.RowKit Go.Sort
set_option linter.unusedVariables false
attribute [local go_sem ↓] Go.wp_at_zero Go.wp_at_succ
def acCells (x : Ac) : List Value := [.int .i64 x.kind, .int .i64 x.a, .int .i64 x.b, .int .i64 x.at_, .string x.word, .string x.text]
def actsCells (l : List Ac) : List Value := l.flatMap acCells
def SzA (x : Ac) : Prop := x.word.size ≤ maxLen ∧ x.text.size ≤ maxLen
/-- a list of acts in memory -/
structure ActsIn (w : World) (hi : Nat) (A : Option Addr) (n c : Nat) (l : List Ac) : Prop where
  row : Row w 0 hi 6 A n c (actsCells l)
  len : l.length = n
  sz : ∀ x ∈ l, SzA x
theorem ActsIn.below {w w' : World} {hi : Nat} {A : Option Addr} {n c : Nat} {l : List Ac} (h : ActsIn w hi A n c l) (hb : Below hi w w') : ActsIn w' hi A n c l := ⟨h.row.below hb, h.len, h.sz⟩
theorem ActsIn.at_ {w : World} {hi : Nat} {A : Option Addr} {n c : Nat} {l : List Ac} (h : ActsIn w hi A n c l) {i : Nat} {x : Ac} (hx : l[i]? = some x) :
    ∃ ba oa, A = some ⟨ba, oa, none⟩ ∧ ba < hi ∧ ∀ X, Below hi w X → X.cell? ⟨ba, oa + i * 6, none⟩ = some (.int .i64 x.kind) ∧ X.cell? ⟨ba, oa + i * 6 + 1, none⟩ = some (.int .i64 x.a) ∧ X.cell? ⟨ba, oa + i * 6 + 2, none⟩ = some (.int .i64 x.b) ∧ X.cell? ⟨ba, oa + i * 6 + 3, none⟩ = some (.int .i64 x.at_) ∧ X.cell? ⟨ba, oa + i * 6 + 4, none⟩ = some (.string x.word) ∧ X.cell? ⟨ba, oa + i * 6 + 5, none⟩ = some (.string x.text) := by
  have hl := (List.getElem?_eq_some_iff.1 hx).1
  obtain ⟨b, o, hA, _, hb, hc⟩ := h.row.at_ (by have := h.len; omega)
  refine ⟨b, o, hA, hb, fun X hX => ?_⟩
  have key : ∀ j u, j < 6 → (acCells x)[j]? = some u → X.cell? ⟨b, o + i * 6 + j, none⟩ = some u := fun j u hj hu => by
    rw [hX.cell (p := ⟨b, _, none⟩) hb, show o + i * 6 + j = o + (i * 6 + j) from by omega]
    refine hc _ u ?_
    unfold actsCells
    rw [flatN_get (s := 6) (fun _ => rfl) l i x hx j hj]
    exact hu
  exact ⟨key 0 _ (by omega) rfl, key 1 _ (by omega) rfl, key 2 _ (by omega) rfl, key 3 _ (by omega) rfl, key 4 _ (by omega) rfl, key 5 _ (by omega) rfl⟩
def BuiltPost (w : World) (s : Int × List Nd) (e : Ending) (w' : World) : Prop :=
  ∃ (A : Option Addr) (n c : Nat) (l : List (Nd × Leaf)), e = .returned (.agg #[.int .i64 s.1, .slice A n c]) ∧ OwnM w' w.heap.size (.slice A n c) l ∧ l.length = n ∧ l.map (·.1) = s.2 ∧ Below w.heap.size w w'
/-- the boxes of built, and the model -/
structure BI (w : World) (gm : Nat) (s : Int × List Nd) (A : Option Addr) (n c : Nat) (l : List (Nd × Leaf)) (X : World) : Prop where
  r : Blk X w.heap.size 26 #[.int .i64 0, .slice none 0 0]
  m : Blk X gm 26 #[.int .i64 s.1, .slice A n c]
  own : OwnM X w.heap.size (.slice A n c) l
  len : l.length = n
  map_ : l.map (·.1) = s.2
  bel : Below w.heap.size w X
  lt : w.heap.size < gm
section
variable {w X X' : World} {gm : Nat} {s : Int × List Nd} {A : Option Addr} {n c : Nat} {l : List (Nd × Leaf)}
theorem BI.after (h : BI w gm s A n c l X) (hb : Below X.heap.size X X') : BI w gm s A n c l X' := ⟨h.r.after hb, h.m.after hb, h.own.after hb, h.len, h.map_, h.bel.trans (hb.mono h.bel.size), h.lt⟩
theorem BI.nodes (h : BI w gm s A n c l X) : NodesIn X 0 X.heap.size A n c s.2 := by
  rw [← h.map_]
  exact (h.own.nodesIn h.len).mono (Nat.zero_le _) (Nat.le_refl _)
/-- the model gives way to another one -/
theorem BI.set (h : BI w gm s A n c l X) {s' : Int × List Nd} {A' : Option Addr} {n' c' : Nat} {l' : List (Nd × Leaf)} (ho : OwnM X w.heap.size (.slice A' n' c') l') (hl : l'.length = n') (hm : l'.map (·.1) = s'.2) :
    BI w gm s' A' n' c' l' ((X.setCell ⟨gm, 0, none⟩ (.int .i64 s'.1)).setCell ⟨gm, 1, none⟩ (.slice A' n' c')) := by
  have hlt := h.lt
  refine ⟨(h.r.far (p := ⟨gm, 0, none⟩) (by simp; omega) _).far (p := ⟨gm, 1, none⟩) (by simp; omega) _, ?_, (ho.other h.m 0 _).other (h.m.set_ 0 _) 1 _, hl, hm, (h.bel.setCell (p := ⟨gm, 0, none⟩) (by simp; omega) _).setCell (p := ⟨gm, 1, none⟩) (by simp; omega) _, hlt⟩
  simpa using (h.m.set_ 0 (.int .i64 s'.1)).set_ 1 (.slice A' n' c')
end
/-- what an act makes, in memory -/
theorem done_step {w X : World} {gm : Nat} {s : Int × List Nd} {A : Option Addr} {n c : Nat} {l : List (Nd × Leaf)} {e : Ending} {w' : World} {x : Ac} (h : BI w gm s A n c l X) (hd : DonePost X s.1 A n c (actR s.1 s.2 x) e w') :
    ∃ (A' : Option Addr) (n' c' : Nat) (l' : List (Nd × Leaf)), e = .returned (.tuple #[.agg #[.int .i64 (stepM s x).1, .slice A' n' c'], .int .i64 (actR s.1 s.2 x).2.1]) ∧ Below X.heap.size X w' ∧ OwnM w' w.heap.size (.slice A' n' c') l' ∧ l'.length = n' ∧ l'.map (·.1) = (stepM s x).2 := by
  obtain ⟨z, A', n', c', he, hb, h1, h2⟩ := hd
  unfold stepM
  by_cases h0 : (actR s.1 s.2 x).2.1 = 0
  · rw [if_pos h0]
    obtain ⟨rfl, l', ho, hl, hm⟩ := h2 h0
    exact ⟨A', n', c', l', he, hb, ho.mono h.bel.size, hl, hm⟩
  · rw [if_neg h0]
    obtain ⟨rfl, rfl, rfl, rfl⟩ := h1 h0
    exact ⟨_, _, _, l, he, hb, h.own.after hb, h.len, h.map_⟩
theorem runV_stop {i : Nat} {s : Int × List Nd} {l : List Ac} (h : l = [] ∨ ¬(i < 150 ∧ s.2.length ≤ 300)) : runV i s l = s := by
  cases l with
  | nil => rfl
  | cons x r =>
    rcases h with h | h
    · cases h
    · rw [runV, if_neg h]
set_option maxRecDepth 20000 in
set_option maxHeartbeats 3200000 in
theorem built_any (w : World) (hi : Nat) (Aa : Option Addr) (na ca : Nat) (acts : List Ac) (h : ActsIn w hi Aa na ca acts) (hh : hi ≤ w.heap.size) :
    Calls Tryz.prog 14 #[.slice Aa na ca] w (BuiltPost w (builtV acts)) := by
  have hres : Tryz.f14.results = #[.cell 2 26] := by kernel_rfl
  have hca := h.row.2.2.1
  have hna := h.row.2.1
  unfold maxLen at hca
  have HA := Lib.hid h
  have HH := Lib.hid hh
  have HLN := Lib.hid h.len
  have hR0 : Blk (w.alloc (.cells #[.int .i64 0, .slice none 0 0] 26)) w.heap.size 26 #[.int .i64 0, .slice none 0 0] := Blk.new _ _ _
  have hbr := below_box w (.cells #[.int .i64 0, .slice none 0 0] 26)
  have HR0 : Hid (Blk (w.alloc (.cells #[.int .i64 0, .slice none 0 0] 26)) w.heap.size 26 #[.int .i64 0, .slice none 0 0] ∧ Below w.heap.size w (w.alloc (.cells #[.int .i64 0, .slice none 0 0] 26))) := Lib.hid ⟨hR0, hbr⟩
  clear h hh hR0 hbr
  go_enter Tryz.func14, Tryz.ntmps14
  go_upto_region 1 with (fail)
  generalize w.alloc (.cells #[.int .i64 0, .slice none 0 0] 26) = X0 at HR0 ⊢
  go_upto_region 2 with (go_at_call 8; (with_reducible refine (new_any _).mono ?_); go_must (rintro e w1 ⟨rfl, hb1⟩; have HR1 := Lib.hid (show Blk w1 w.heap.size 26 #[.int .i64 0, .slice none 0 0] ∧ Below w.heap.size w w1 from ⟨HR0.out.1.after hb1, HR0.out.2.trans (hb1.mono HR0.out.2.size)⟩); clear hb1))
  have HB : Hid (BI w w1.heap.size (1, []) none 0 0 [] (w1.alloc (.cells #[.int .i64 1, .slice none 0 0] 26))) := Lib.hid ⟨HR1.out.1.after (below_box _ _), Blk.new _ _ _, ownM_nil _ _, rfl, rfl, HR1.out.2.trans ((below_box _ _).mono HR1.out.2.size), HR1.out.1.lt⟩
  generalize w1.alloc (.cells #[.int .i64 1, .slice none 0 0] 26) = X1 at HB ⊢
  generalize w1.heap.size = gm at HB ⊢
  clear HR0 HR1
  go_wp2_with fail
  go_loopw [4] (fun v4 wr => ∃ (i : Nat) (s : Int × List Nd) (A : Option Addr) (n c : Nat) (l : List (Nd × Leaf)), i ≤ na ∧ i ≤ 150 ∧ v4 = .int .i64 i ∧ Hid (BI w gm s A n c l wr) ∧ Hid (Okay i s ∧ runV i s (acts.drop i) = builtV acts)) (fun v _ => na - (intOf v).toNat)
  case atStart => exact ⟨0, (1, []), none, 0, 0, [], Nat.zero_le _, Nat.zero_le _, rfl, HB, Lib.hid ⟨Okay.start, rfl⟩⟩
  case round =>
    clear HB
    obtain ⟨i, s, A, n, c, l, hi1, hi150, rfl, HX, HO⟩ := hrel
    rename World => wr
    have m0 := (HX.out.m.cell 0).trans (show _ = some (.int .i64 s.1) from rfl)
    have m1 := (HX.out.m.cell 1).trans (show _ = some (.slice A n c) from rfl)
    by_cases hlt : i < na
    · by_cases h150 : i < 150
      · by_cases h300 : n ≤ 300
        · obtain ⟨x, hx⟩ : ∃ x, acts[i]? = some x := ⟨acts[i]'(by have := HLN.out; omega), List.getElem?_eq_getElem _⟩
          obtain ⟨ba, oa, hAa, hbl, hcl⟩ := HA.out.at_ hx
          subst hAa
          have HSof : Hid (∀ X, Below w.heap.size w X → X.cell? ⟨ba, oa + i * 6, none⟩ = some (.int .i64 x.kind) ∧ X.cell? ⟨ba, oa + i * 6 + 1, none⟩ = some (.int .i64 x.a) ∧ X.cell? ⟨ba, oa + i * 6 + 2, none⟩ = some (.int .i64 x.b) ∧ X.cell? ⟨ba, oa + i * 6 + 3, none⟩ = some (.int .i64 x.at_) ∧ X.cell? ⟨ba, oa + i * 6 + 4, none⟩ = some (.string x.word) ∧ X.cell? ⟨ba, oa + i * 6 + 5, none⟩ = some (.string x.text)) := Lib.hid fun X hX => hcl X (hX.mono HH.out)
          have hsx := HA.out.sz x (List.mem_of_getElem? hx)
          have hfx := HO.out.1.fits (by omega)
          have HDn : Hid (∀ Y, BI w gm s A n c l Y → Calls Tryz.prog 9 #[.agg #[.int .i64 s.1, .slice A n c], .agg #[.int .i64 x.kind, .int .i64 x.a, .int .i64 x.b, .int .i64 x.at_, .string x.word, .string x.text]] Y (DonePost Y s.1 A n c (actR s.1 s.2 x))) := Lib.hid fun Y hY => done_any Y Y.heap.size s.1 A n c s.2 x hY.nodes (Nat.le_refl _) hsx.1 hsx.2 hfx
          have hstep : acts.drop i = x :: acts.drop (i + 1) := by
            obtain ⟨h1, h2⟩ := List.getElem?_eq_some_iff.1 hx
            rw [← h2, List.drop_eq_getElem_cons h1]
          have HN : Hid (Okay (i + 1) (stepM s x) ∧ runV (i + 1) (stepM s x) (acts.drop (i + 1)) = builtV acts) := Lib.hid ⟨(HO.out.1.step x).1, by
            have h1 := HO.out.2
            have h2 : s.2.length = n := by rw [← HX.out.map_, List.length_map, HX.out.len]
            rw [hstep, runV, if_pos ⟨h150, by omega⟩] at h1
            exact h1⟩
          clear hcl hsx hfx hstep hx HO
          go_upto_region 5 with (fail)
          clear m0 m1
          replace HX := Lib.hid (HX.out.after (below_drew1 _))
          refine wp_region_held (S := fun w' => w'.cell? ⟨ba, oa + i * 6, none⟩ = some (.int .i64 x.kind) ∧ w'.cell? ⟨ba, oa + i * 6 + 1, none⟩ = some (.int .i64 x.a) ∧ w'.cell? ⟨ba, oa + i * 6 + 2, none⟩ = some (.int .i64 x.b) ∧ w'.cell? ⟨ba, oa + i * 6 + 3, none⟩ = some (.int .i64 x.at_) ∧ w'.cell? ⟨ba, oa + i * 6 + 4, none⟩ = some (.string x.word) ∧ w'.cell? ⟨ba, oa + i * 6 + 5, none⟩ = some (.string x.text)) (by kernel_rfl) ?_
          show wpAnyH _ _ _ _ _ 10 (Array.replicate 10 false) _ wr.drew
          generalize wr.drew = wz at HX ⊢
          have hHeld : (fun w' => w'.cell? ⟨ba, oa + i * 6, none⟩ = some (.int .i64 x.kind) ∧ w'.cell? ⟨ba, oa + i * 6 + 1, none⟩ = some (.int .i64 x.a) ∧ w'.cell? ⟨ba, oa + i * 6 + 2, none⟩ = some (.int .i64 x.b) ∧ w'.cell? ⟨ba, oa + i * 6 + 3, none⟩ = some (.int .i64 x.at_) ∧ w'.cell? ⟨ba, oa + i * 6 + 4, none⟩ = some (.string x.word) ∧ w'.cell? ⟨ba, oa + i * 6 + 5, none⟩ = some (.string x.text)) wz := HSof.out _ HX.out.bel
          have m0 := (HX.out.m.cell 0).trans (show _ = some (.int .i64 s.1) from rfl)
          have m1 := (HX.out.m.cell 1).trans (show _ = some (.slice A n c) from rfl)
          refine wpAnyH_take (i := 1) (v := (.slice (some ⟨ba, oa, none⟩) na ca)) rfl (by kernel_rfl) (by kernel_rfl) (by kernel_rfl) (fun _ _ _ h => h) (Or.inl ⟨by rfl, ?yt_1⟩) (by assumption) ?qt_1
          case yt_1 => (intro w hSw; (try dsimp only at hSw); go_simp)
          case qt_1 =>
            (try simp only [Act.put]); (try simp only [List.setIfInBounds_toArray])
            refine wpAnyH_take (i := 2) (v := (.int .i64 i)) rfl (by kernel_rfl) (by kernel_rfl) (by kernel_rfl) (fun _ _ _ h => h) (Or.inl ⟨by rfl, ?yt_2⟩) (by assumption) ?qt_2
            case yt_2 => (intro w hSw; (try dsimp only at hSw); go_simp)
            case qt_2 =>
              (try simp only [Act.put]); (try simp only [List.setIfInBounds_toArray])
              refine wpAnyH_take (i := 3) (v := (.pointer (some ⟨ba, oa + i * 6, none⟩))) rfl (by kernel_rfl) (by kernel_rfl) (by kernel_rfl) (fun _ _ _ h => h) (Or.inl ⟨by rfl, ?yt_3⟩) (by assumption) ?qt_3
              case yt_3 => (intro w hSw; (try dsimp only at hSw); go_simp)
              case qt_3 =>
                (try simp only [Act.put]); (try simp only [List.setIfInBounds_toArray])
                refine wpAnyH_take (i := 4) (v := (.agg #[.int .i64 x.kind, .int .i64 x.a, .int .i64 x.b, .int .i64 x.at_, .string x.word, .string x.text])) rfl (by kernel_rfl) (by kernel_rfl) (by kernel_rfl) (fun _ _ _ h => h) (Or.inl ⟨by rfl, ?yt_4⟩) (by assumption) ?qt_4
                case yt_4 => (intro w hSw; (try dsimp only at hSw); go_simp)
                case qt_4 =>
                  (try simp only [Act.put]); (try simp only [List.setIfInBounds_toArray])
                  refine wpAnyH_ready (rs := [0]) (by kernel_rfl) (by simp) ?_
                  refine AllReadyH.cons rfl (fun K hK => ?st_5) ?mt_5
                  case st_5 =>
                    go_simp
                    refine hK.out _ _ ?kt_5 (fun hHeld => ?qt_5)
                    case kt_5 => ((try dsimp only); first | exact HSof.out _ HX6.out.bel | exact HSof.out _ HX.out.bel)
                    case qt_5 =>
                      clear hK K
                      (try simp only [Act.put]); (try simp only [List.setIfInBounds_toArray])
                      refine wpAnyH_ready (rs := [5]) (by kernel_rfl) (by simp) ?_
                      refine AllReadyH.cons rfl (fun K hK => ?st_6) ?mt_6
                      case st_6 =>
                        (refine step_call _ (by rfl) 9 #[.agg #[.int .i64 s.1, .slice A n c], .agg #[.int .i64 x.kind, .int .i64 x.a, .int .i64 x.b, .int .i64 x.at_, .string x.word, .string x.text]] (by go_simp) (HDn.out _ HX.out) ?_; intro e w5 hd5; obtain ⟨A5, n5, c5, l5, rfl, hb5, ho5, hl5, hm5⟩ := done_step HX.out hd5; clear hd5; refine ⟨_, rfl, ?_⟩; have hX5 := HX.out.after hb5; have p0 := (hX5.m.cell 0).trans (show _ = some (.int .i64 s.1) from rfl); have p1 := (hX5.m.cell 1).trans (show _ = some (.slice A n c) from rfl); have p2 := hX5.m.frozen 0; have p3 := hX5.m.frozen 1; have HX6 := Lib.hid (hX5.set ho5 hl5 hm5); replace HX := Lib.hid hX5; clear hX5 ho5 hl5 hm5 hb5 m0 m1)
                        refine hK.out _ _ ?kt_6 (fun hHeld => ?qt_6)
                        case kt_6 => ((try dsimp only); first | exact HSof.out _ HX6.out.bel | exact HSof.out _ HX.out.bel)
                        case qt_6 =>
                          clear hK K
                          (try simp only [Act.put]); (try simp only [List.setIfInBounds_toArray])
                          refine wpAnyH_take (i := 6) (v := (.tuple #[.agg #[.int .i64 (stepM s x).1, .slice A5 n5 c5], .int .i64 (actR s.1 s.2 x).2.1])) rfl (by kernel_rfl) (by kernel_rfl) (by kernel_rfl) (fun _ _ _ h => h) (Or.inl ⟨by rfl, ?yt_7⟩) (by assumption) ?qt_7
                          case yt_7 => (intro w hSw; (try dsimp only at hSw); go_simp)
                          case qt_7 =>
                            (try simp only [Act.put]); (try simp only [List.setIfInBounds_toArray])
                            refine wpAnyH_take (i := 7) (v := (.agg #[.int .i64 (stepM s x).1, .slice A5 n5 c5])) rfl (by kernel_rfl) (by kernel_rfl) (by kernel_rfl) (fun _ _ _ h => h) (Or.inl ⟨by rfl, ?yt_8⟩) (by assumption) ?qt_8
                            case yt_8 => (intro w hSw; (try dsimp only at hSw); go_simp)
                            case qt_8 =>
                              (try simp only [Act.put]); (try simp only [List.setIfInBounds_toArray])
                              refine wpAnyH_take (i := 8) (v := (.int .i64 (actR s.1 s.2 x).2.1)) rfl (by kernel_rfl) (by kernel_rfl) (by kernel_rfl) (fun _ _ _ h => h) (Or.inl ⟨by rfl, ?yt_9⟩) (by assumption) ?qt_9
                              case yt_9 => (intro w hSw; (try dsimp only at hSw); go_simp)
                              case qt_9 =>
                                (try simp only [Act.put]); (try simp only [List.setIfInBounds_toArray])
                                refine wpAnyH_ready (rs := [9]) (by kernel_rfl) (by simp) ?_
                                refine AllReadyH.cons rfl (fun K hK => ?st_10) ?mt_10
                                case st_10 =>
                                  go_simp
                                  refine hK.out _ _ ?kt_10 (fun hHeld => ?qt_10)
                                  case kt_10 => ((try dsimp only); first | exact HSof.out _ HX6.out.bel | exact HSof.out _ HX.out.bel)
                                  case qt_10 =>
                                    clear hK K
                                    (try simp only [Act.put]); (try simp only [List.setIfInBounds_toArray])
                                    refine wpAnyH_done (by kernel_rfl) ?_ _
                                    clear hHeld
                                    generalize (w5.setCell ⟨gm, 0, none⟩ (.int .i64 (stepM s x).1)).setCell ⟨gm, 1, none⟩ (.slice A5 n5 c5) = Y at HX6 ⊢
                                    clear p0 p1 p2 p3 HX
                                    go_wp2_with fail
                                    go_roundw
                                    case rel => exact ⟨i + 1, stepM s x, A5, n5, c5, l5, by omega, by omega, rfl, HX6, HN⟩
                                    case measure => simp only [intOf]; omega
                                case mt_10 =>
                                  exact AllReadyH.nil
                      case mt_6 =>
                        exact AllReadyH.nil
                  case mt_5 =>
                    exact AllReadyH.nil
        · have HS : Hid (s = builtV acts) := Lib.hid (by
            rw [← HO.out.2]
            have h2 : s.2.length = n := by rw [← HX.out.map_, List.length_map, HX.out.len]
            exact (runV_stop (.inr (fun h => by omega))).symm)
          have r0 : wr.cell? ⟨w.heap.size, 0, none⟩ = some (.int .i64 0) := (HX.out.r.cell 0).trans rfl
          have r1 : wr.cell? ⟨w.heap.size, 1, none⟩ = some (.slice none 0 0) := (HX.out.r.cell 1).trans rfl
          have r2 : wr.frozen? ⟨w.heap.size, 0, none⟩ = false := HX.out.r.frozen 0
          have r3 : wr.frozen? ⟨w.heap.size, 1, none⟩ = false := HX.out.r.frozen 1
          clear HO
          go_wp2_with fail
          (try rw [Exit.noGoto_ret])
          (try simp only [Exit.inBlock, Exit.then])
          refine bodyPost_ret (v := .agg #[.int .i64 s.1, .slice A n c]) ?hr rfl ?_
          case hr =>
            simp only [results, hres]
            go_simp
          rw [← HS.out]
          exact ⟨A, n, c, l, rfl, (HX.out.own.other HX.out.r 0 _).other (HX.out.r.set_ 0 _) 1 _, HX.out.len, HX.out.map_, (HX.out.bel.setCell (p := ⟨w.heap.size, 0, none⟩) (Nat.le_refl _) _).setCell (p := ⟨w.heap.size, 1, none⟩) (Nat.le_refl _) _⟩
      · have HS : Hid (s = builtV acts) := Lib.hid (by rw [← HO.out.2]; exact (runV_stop (.inr (fun h => by omega))).symm)
        have r0 : wr.cell? ⟨w.heap.size, 0, none⟩ = some (.int .i64 0) := (HX.out.r.cell 0).trans rfl
        have r1 : wr.cell? ⟨w.heap.size, 1, none⟩ = some (.slice none 0 0) := (HX.out.r.cell 1).trans rfl
        have r2 : wr.frozen? ⟨w.heap.size, 0, none⟩ = false := HX.out.r.frozen 0
        have r3 : wr.frozen? ⟨w.heap.size, 1, none⟩ = false := HX.out.r.frozen 1
        clear HO
        go_wp2_with fail
        (try rw [Exit.noGoto_ret])
        (try simp only [Exit.inBlock, Exit.then])
        refine bodyPost_ret (v := .agg #[.int .i64 s.1, .slice A n c]) ?hr rfl ?_
        case hr =>
          simp only [results, hres]
          go_simp
        rw [← HS.out]
        exact ⟨A, n, c, l, rfl, (HX.out.own.other HX.out.r 0 _).other (HX.out.r.set_ 0 _) 1 _, HX.out.len, HX.out.map_, (HX.out.bel.setCell (p := ⟨w.heap.size, 0, none⟩) (Nat.le_refl _) _).setCell (p := ⟨w.heap.size, 1, none⟩) (Nat.le_refl _) _⟩
    · have HS : Hid (s = builtV acts) := Lib.hid (by rw [← HO.out.2]; exact (runV_stop (.inl (List.drop_eq_nil_of_le (by have := HLN.out; omega)))).symm)
      have r0 : wr.cell? ⟨w.heap.size, 0, none⟩ = some (.int .i64 0) := (HX.out.r.cell 0).trans rfl
      have r1 : wr.cell? ⟨w.heap.size, 1, none⟩ = some (.slice none 0 0) := (HX.out.r.cell 1).trans rfl
      have r2 : wr.frozen? ⟨w.heap.size, 0, none⟩ = false := HX.out.r.frozen 0
      have r3 : wr.frozen? ⟨w.heap.size, 1, none⟩ = false := HX.out.r.frozen 1
      clear HO
      go_wp2_with fail
      (try rw [Exit.noGoto_ret])
      (try simp only [Exit.inBlock, Exit.then])
      refine bodyPost_ret (v := .agg #[.int .i64 s.1, .slice A n c]) ?hr rfl ?_
      case hr =>
        simp only [results, hres]
        go_simp
      rw [← HS.out]
      exact ⟨A, n, c, l, rfl, (HX.out.own.other HX.out.r 0 _).other (HX.out.r.set_ 0 _) 1 _, HX.out.len, HX.out.map_, (HX.out.bel.setCell (p := ⟨w.heap.size, 0, none⟩) (Nat.le_refl _) _).setCell (p := ⟨w.heap.size, 1, none⟩) (Nat.le_refl _) _⟩
end Go.Proofs.YtbkmdlfenbfdlaaGreat
namespace Go.Proofs.YtbkmdlfenbfdlaaGreat
open Go Go.RowKit
set_option linter.unusedVariables false
def sList : ByteArray := ⟨#[76, 105, 115, 116]⟩
def sNum : ByteArray := ⟨#[78, 117, 109]⟩
def sText : ByteArray := ⟨#[84, 101, 120, 116]⟩
def sSum : ByteArray := ⟨#[83, 117, 109]⟩
def sItem : ByteArray := ⟨#[105, 116, 101, 109]⟩
def sNote : ByteArray := ⟨#[110, 111, 116, 101]⟩
def awC : Nat → ByteArray
  | 0 => sNum
  | 1 => sText
  | 2 => sSum
  | _ => sNum
def awR : Nat → ByteArray
  | 1 => sNote
  | _ => sItem
def awP : Nat → Int
  | 2 => 1
  | _ => 0
def awK : Nat → List Int
  | 0 => []
  | 1 => [2]
  | 2 => [2, 3]
  | 3 => [2, 4, 3]
  | _ => [5, 2, 4, 3]
def awT : Nat → List Nd
  | 0 => []
  | k + 1 => awT k ++ [⟨k + 2, awC k, 1, awR k, [], [], []⟩]
/-- the model behind so many rows -/
def awS (k : Nat) : List Nd := ⟨1, sList, 0, ⟨#[]⟩, [], awK k, []⟩ :: awT k
theorem aw_first : addE 1 [] 0 ⟨#[]⟩ 0 sList = 0 ∧ addL 1 [] 0 ⟨#[]⟩ sList (admV 1 [] 0 ⟨#[]⟩ 0 1 1).1.toNat = awS 0 := by
  constructor <;> kernel_rfl
theorem aw_step (k : Nat) (hk : k < 4) : addE (k + 2) (awS k) 1 (awR k) (awP k) (awC k) = 0 ∧ addL (k + 2) (awS k) 1 (awR k) (awC k) (admV (k + 2) (awS k) 1 (awR k) (awP k) 1 1).1.toNat = awS (k + 1) := by
  match k, hk with
  | 0, _ => constructor <;> kernel_rfl
  | 1, _ => constructor <;> kernel_rfl
  | 2, _ => constructor <;> kernel_rfl
  | 3, _ => constructor <;> kernel_rfl
theorem aw_find : (findV 6 (awS 4) 1).2 = true ∧ (findV 6 (awS 4) 1).1.kids = [5, 2, 4, 3] := by constructor <;> kernel_rfl
theorem aw_move : moveE 6 (awS 4) 1 2 sItem 0 = 21 := by kernel_rfl
theorem aw_kids : kidsR 6 (awS 4) 1 sItem = [5, 2, 4] := by kernel_rfl
theorem aw_right : rightB 6 (awS 4) = true := by kernel_rfl
theorem aw_depth : depthR 6 (awS 4) 4 = 2 := by kernel_rfl
theorem aw_fits (k : Nat) (hk : k ≤ 4) : ∀ nd ∈ awS k, nd.props.length = 0 ∧ nd.refs.length = 0 ∧ nd.kids.length ≤ 4 := by
  match k, hk with
  | 0, _ => simp [awS, awT, awK]
  | 1, _ => simp [awS, awT, awK]
  | 2, _ => simp [awS, awT, awK]
  | 3, _ => simp [awS, awT, awK]
  | 4, _ => simp [awS, awT, awK]
end Go.Proofs.YtbkmdlfenbfdlaaGreat

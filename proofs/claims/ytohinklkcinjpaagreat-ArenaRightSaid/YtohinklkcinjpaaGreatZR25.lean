/-
  PLAIN: what acts make, one behind the other: it stays right, and its lists stay short.
  WALKS: built.
  PLAIN: the chapter's first rows.
  WALKS: awake: the chapter's first rows.
  WALKS: Users of the document.
  WALKS: a model's lists are written over.
  WALKS: a model's lists are written over: nothing else is, neither below its memory nor above it.
-/
import Derived.Test.YtohinklkcinjpaaGreatZR24
import Derived.KernelRfl
namespace Go.Proofs.YtohinklkcinjpaaGreat
open Go Go.RowKit
set_option linter.unusedVariables false
section
variable {next : Int} {nds : List Nd}
theorem resR_ok {nx er : Int} {nds' : List Nd} (h : (resR nx er nds').2.1 = 0) : er = 0 ∧ resR nx er nds' = (nx, 0, nds') := by
  unfold resR at h ⊢
  by_cases h0 : er = 0
  · rw [if_pos h0]; exact ⟨h0, rfl⟩
  · rw [if_neg h0] at h; exact absurd h h0
/-- an act leaves a right model right, and its Next never falls -/
theorem TM.act (h : TM next nds) (x : Ac) (he : (actR next nds x).2.1 = 0) : TM (actR next nds x).1 (actR next nds x).2.2 ∧ next ≤ (actR next nds x).1 := by
  unfold actR actP at he ⊢
  split at he
  · rename_i hk
    obtain ⟨h0, e⟩ := resR_ok he
    rw [if_pos hk, e]
    exact ⟨h.add h0, by show next ≤ next + 1; omega⟩
  · rename_i hk1
    split at he
    · rename_i hk
      obtain ⟨h0, e⟩ := resR_ok he
      rw [if_neg hk1, if_pos hk, e]
      exact ⟨h.move h0, Int.le_refl _⟩
    · rename_i hk2
      split at he
      · rename_i hk
        obtain ⟨h0, e⟩ := resR_ok he
        rw [if_neg hk1, if_neg hk2, if_pos hk, e]
        exact ⟨h.copy h0, by show next ≤ next + _; omega⟩
      · rename_i hk3
        split at he
        · rename_i hk
          obtain ⟨h0, e⟩ := resR_ok he
          rw [if_neg hk1, if_neg hk2, if_neg hk3, if_pos hk, e]
          exact ⟨h.remove h0, Int.le_refl _⟩
        · rename_i hk4
          split at he
          · rename_i hk
            obtain ⟨h0, e⟩ := resR_ok he
            rw [if_neg hk1, if_neg hk2, if_neg hk3, if_neg hk4, if_pos hk, e]
            exact ⟨h.put_ h0, Int.le_refl _⟩
          · rename_i hk5
            obtain ⟨h0, e⟩ := resR_ok he
            rw [if_neg hk1, if_neg hk2, if_neg hk3, if_neg hk4, if_neg hk5, e]
            exact ⟨h.aim_ h0, Int.le_refl _⟩
/-- lists of at most so many -/
def Bd (k : Nat) (nds : List Nd) : Prop := ∀ nd ∈ nds, nd.props.length ≤ k ∧ nd.refs.length ≤ k
theorem Bd.mono {k k' : Nat} (h : Bd k nds) (hk : k ≤ k') : Bd k' nds := fun nd hnd => ⟨Nat.le_trans (h nd hnd).1 hk, Nat.le_trans (h nd hnd).2 hk⟩
theorem Bd.map {k k' : Nat} {f : Nd → Nd} (h : Bd k nds) (hf : ∀ y, y.props.length ≤ k → y.refs.length ≤ k → (f y).props.length ≤ k' ∧ (f y).refs.length ≤ k') : Bd k' (nds.map f) := fun nd hnd => by
  obtain ⟨y, hy, rfl⟩ := List.mem_map.1 hnd
  exact hf y (h y hy).1 (h y hy).2
theorem insL_len {α : Type} (l : List α) (k : Nat) (x : α) : (insL l k x).length = l.length + 1 := by
  unfold insL
  have := (List.perm_middle (a := x) (l₁ := l.take k) (l₂ := l.drop k)).length_eq
  rw [List.take_append_drop] at this
  exact this
theorem putN_len (nd : Nd) (name val : ByteArray) : (putN nd name val).props.length ≤ nd.props.length + 1 := by
  unfold putN
  simp only
  split
  · rw [List.length_modify]; omega
  · rw [insL_len]; omega
theorem aimN_len (nd : Nd) (name : ByteArray) (val : Int) : (aimN nd name val).refs.length ≤ nd.refs.length + 1 := by
  unfold aimN
  simp only
  split
  · rw [List.length_modify]; omega
  · rw [insL_len]; omega
theorem Bd.putF {k : Nat} (h : Bd k nds) (id parent : Int) (role : ByteArray) (a : Nat) : Bd k (nds.map (putF id parent role a)) := h.map fun y h1 h2 => by
  obtain ⟨_, _, g3, g4⟩ := putF_same (id := id) (parent := parent) (role := role) (a := a) (y := y)
  rw [g3, g4]
  exact ⟨h1, h2⟩
theorem Bd.take {k : Nat} (h : Bd k nds) (id : Int) : Bd k (takeL nds id) := h.map fun y h1 h2 => by
  unfold takeF
  split <;> exact ⟨h1, h2⟩
theorem Bd.app {k : Nat} {cs : List Nd} (h : Bd k nds) (h' : Bd k cs) : Bd k (nds ++ cs) := fun nd hnd => by
  rcases List.mem_append.1 hnd with hnd | hnd
  · exact h nd hnd
  · exact h' nd hnd
theorem Bd.act {k : Nat} (hT : TM next nds) (h : Bd k nds) (x : Ac) (he : (actR next nds x).2.1 = 0) : Bd (k + 1) (actR next nds x).2.2 := by
  unfold actR actP at he ⊢
  split at he
  · rename_i hk
    obtain ⟨h0, e⟩ := resR_ok he
    rw [if_pos hk, e]
    obtain ⟨hr, hc, hw, ha⟩ := addE_ok h0
    obtain ⟨a1, _⟩ := admV_ok (admV_pair ha)
    show Bd _ (addL ..)
    rw [addL_put hT a1]
    exact ((h.mono (Nat.le_succ _)).app (fun nd hnd => by
      obtain rfl : nd = newNd _ _ := by simpa using hnd
      exact ⟨Nat.zero_le _, Nat.zero_le _⟩)).putF _ _ _ _
  · rename_i hk1
    split at he
    · rename_i hk
      obtain ⟨h0, e⟩ := resR_ok he
      rw [if_neg hk1, if_pos hk, e]
      show Bd _ (moveL ..)
      rw [moveL_put hT h0]
      exact ((h.mono (Nat.le_succ _)).take _).putF _ _ _ _
    · rename_i hk2
      split at he
      · rename_i hk
        obtain ⟨h0, e⟩ := resR_ok he
        rw [if_neg hk1, if_neg hk2, if_pos hk, e]
        show Bd _ (copyL ..)
        rw [copyL_put hT h0]
        refine ((h.mono (Nat.le_succ _)).app fun nd hnd => ?_).putF _ _ _ _
        obtain ⟨hr, hw, ⟨nd0, hx⟩, ha⟩ := copyE_ok h0
        obtain ⟨i, y, z, hy, hz, rfl⟩ := (cps_mem ((rightM hr).part hx).all).1 hnd
        have hzm := ((ndOf_mem (rightM hr).rise).1 hz).1
        have := h z hzm
        refine ⟨by show z.props.length ≤ _; omega, ?_⟩
        show (z.refs.map _).length ≤ _
        rw [List.length_map]; omega
      · rename_i hk3
        split at he
        · rename_i hk
          obtain ⟨h0, e⟩ := resR_ok he
          rw [if_neg hk1, if_neg hk2, if_neg hk3, if_pos hk, e]
          exact fun nd hnd => ((h.mono (Nat.le_succ _)).take _) nd (List.mem_filter.1 hnd).1
        · rename_i hk4
          split at he
          · rename_i hk
            obtain ⟨h0, e⟩ := resR_ok he
            rw [if_neg hk1, if_neg hk2, if_neg hk3, if_neg hk4, if_pos hk, e]
            show Bd _ (chL ..)
            rw [chL_map hT.riseR]
            refine h.map fun y h1 h2 => ?_
            split
            · have := putN_len y x.word x.text
              exact ⟨by omega, by show y.refs.length ≤ _; omega⟩
            · exact ⟨by omega, by omega⟩
          · rename_i hk5
            obtain ⟨h0, e⟩ := resR_ok he
            rw [if_neg hk1, if_neg hk2, if_neg hk3, if_neg hk4, if_neg hk5, e]
            show Bd _ (chL ..)
            rw [chL_map hT.riseR]
            refine h.map fun y h1 h2 => ?_
            split
            · have := aimN_len y x.word (pickV next nds x.b)
              exact ⟨by show y.props.length ≤ _; omega, by omega⟩
            · exact ⟨by omega, by omega⟩
theorem Bd.fits {k : Nat} (hT : TM next nds) (h : Bd k nds) (hk : k ≤ 100000) : ∀ nd ∈ nds, Fits 1 nd := fun nd hnd => by
  have h1 := h nd hnd
  have h2 := hT.kl hnd
  have h3 := hT.len
  exact ⟨by omega, by omega, by omega⟩
end
/-- a model behind an act -/
def stepM (s : Int × List Nd) (x : Ac) : Int × List Nd := if (actR s.1 s.2 x).2.1 = 0 then ((actR s.1 s.2 x).1, (actR s.1 s.2 x).2.2) else s
/-- .. behind acts -/
def runV : Nat → Int × List Nd → List Ac → Int × List Nd
  | _, s, [] => s
  | i, s, x :: r => if i < 150 ∧ s.2.length ≤ 300 then runV (i + 1) (stepM s x) r else s
/-- right, and short -/
structure Okay (k : Nat) (s : Int × List Nd) : Prop where
  tm : TM s.1 s.2
  bd : Bd k s.2
theorem Okay.start : Okay 0 (1, []) := ⟨⟨by decide, by decide, by decide, by simp, by simp, by simp, by simp, by simp, by simp, fun _ => 0, rfl, by simp⟩, fun nd hnd => by cases hnd⟩
theorem Okay.step {k : Nat} {s : Int × List Nd} (h : Okay k s) (x : Ac) : Okay (k + 1) (stepM s x) ∧ s.1 ≤ (stepM s x).1 := by
  unfold stepM
  split
  · rename_i he
    exact ⟨⟨(h.tm.act x he).1, Bd.act h.tm h.bd x he⟩, (h.tm.act x he).2⟩
  · exact ⟨⟨h.tm, h.bd.mono (Nat.le_succ _)⟩, Int.le_refl _⟩
theorem Okay.mono {k k' : Nat} {s : Int × List Nd} (h : Okay k s) (hk : k ≤ k') : Okay k' s := ⟨h.tm, h.bd.mono hk⟩
theorem Okay.run : ∀ (r : List Ac) (i : Nat) (s : Int × List Nd), i ≤ 150 → Okay i s → Okay 150 (runV i s r)
  | [], i, s, hi, h => h.mono hi
  | x :: r, i, s, hi, h => by
    rw [runV]
    split
    · rename_i hc
      exact Okay.run r (i + 1) _ (by omega) (h.step x).1
    · exact h.mono hi
theorem Okay.fits {k : Nat} {s : Int × List Nd} (h : Okay k s) (hk : k ≤ 100000) : ∀ nd ∈ s.2, Fits 1 nd := h.bd.fits h.tm hk
end Go.Proofs.YtohinklkcinjpaaGreat
namespace Go.Proofs.YtohinklkcinjpaaGreat
open Go Go.RowKit Go.Sort
set_option linter.unusedVariables false
attribute [local go_sem ↓] Go.wp_at_zero Go.wp_at_succ
def acCells (x : Ac) : List Value := [.int .i64 x.kind, .int .i64 x.a, .int .i64 x.b, .int .i64 x.at_, .string x.word, .string x.text]
def actsCells (l : List Ac) : List Value := l.flatMap acCells
def SzA (x : Ac) : Prop := x.word.size ≤ maxLen ∧ x.text.size ≤ maxLen
/-- a list of acts in memory -/
structure ActsIn (w : World) (hi : Nat) (A : Option Addr) (n c : Nat) (l : List Ac) : Prop where
  row : Row w 0 hi 6 A n c (actsCells l)
  len : l.length = n
  sz : ∀ x ∈ l, SzA x
theorem ActsIn.below {w w' : World} {hi : Nat} {A : Option Addr} {n c : Nat} {l : List Ac} (h : ActsIn w hi A n c l) (hb : Below hi w w') : ActsIn w' hi A n c l := ⟨h.row.below hb, h.len, h.sz⟩
theorem ActsIn.at_ {w : World} {hi : Nat} {A : Option Addr} {n c : Nat} {l : List Ac} (h : ActsIn w hi A n c l) {i : Nat} {x : Ac} (hx : l[i]? = some x) :
    ∃ ba oa, A = some ⟨ba, oa, none⟩ ∧ ba < hi ∧ ∀ X, Below hi w X → X.cell? ⟨ba, oa + i * 6, none⟩ = some (.int .i64 x.kind) ∧ X.cell? ⟨ba, oa + i * 6 + 1, none⟩ = some (.int .i64 x.a) ∧ X.cell? ⟨ba, oa + i * 6 + 2, none⟩ = some (.int .i64 x.b) ∧ X.cell? ⟨ba, oa + i * 6 + 3, none⟩ = some (.int .i64 x.at_) ∧ X.cell? ⟨ba, oa + i * 6 + 4, none⟩ = some (.string x.word) ∧ X.cell? ⟨ba, oa + i * 6 + 5, none⟩ = some (.string x.text) := by
  have hl := (List.getElem?_eq_some_iff.1 hx).1
  obtain ⟨b, o, hA, _, hb, hc⟩ := h.row.at_ (by have := h.len; omega)
  refine ⟨b, o, hA, hb, fun X hX => ?_⟩
  have key : ∀ j u, j < 6 → (acCells x)[j]? = some u → X.cell? ⟨b, o + i * 6 + j, none⟩ = some u := fun j u hj hu => by
    rw [hX.cell (p := ⟨b, _, none⟩) hb, show o + i * 6 + j = o + (i * 6 + j) from by omega]
    refine hc _ u ?_
    unfold actsCells
    rw [flatN_get (s := 6) (fun _ => rfl) l i x hx j hj]
    exact hu
  exact ⟨key 0 _ (by omega) rfl, key 1 _ (by omega) rfl, key 2 _ (by omega) rfl, key 3 _ (by omega) rfl, key 4 _ (by omega) rfl, key 5 _ (by omega) rfl⟩
/-- the boxes of built, and the model -/
structure BI (w : World) (gm : Nat) (s : Int × List Nd) (A : Option Addr) (n c : Nat) (l : List (Nd × Leaf)) (X : World) : Prop where
  r : Blk X w.heap.size 26 #[.int .i64 0, .slice none 0 0]
  m : Blk X gm 26 #[.int .i64 s.1, .slice A n c]
  own : OwnM X w.heap.size (.slice A n c) l
  len : l.length = n
  map_ : l.map (·.1) = s.2
  bel : Below w.heap.size w X
  lt : w.heap.size < gm
section
variable {w X X' : World} {gm : Nat} {s : Int × List Nd} {A : Option Addr} {n c : Nat} {l : List (Nd × Leaf)}
theorem BI.after (h : BI w gm s A n c l X) (hb : Below X.heap.size X X') : BI w gm s A n c l X' := ⟨h.r.after hb, h.m.after hb, h.own.after hb, h.len, h.map_, h.bel.trans (hb.mono h.bel.size), h.lt⟩
theorem BI.nodes (h : BI w gm s A n c l X) : NodesIn X 0 X.heap.size A n c s.2 := by
  rw [← h.map_]
  exact (h.own.nodesIn h.len).mono (Nat.zero_le _) (Nat.le_refl _)
/-- the model gives way to another one -/
theorem BI.set (h : BI w gm s A n c l X) {s' : Int × List Nd} {A' : Option Addr} {n' c' : Nat} {l' : List (Nd × Leaf)} (ho : OwnM X w.heap.size (.slice A' n' c') l') (hl : l'.length = n') (hm : l'.map (·.1) = s'.2) :
    BI w gm s' A' n' c' l' ((X.setCell ⟨gm, 0, none⟩ (.int .i64 s'.1)).setCell ⟨gm, 1, none⟩ (.slice A' n' c')) := by
  have hlt := h.lt
  refine ⟨(h.r.far (p := ⟨gm, 0, none⟩) (by simp; omega) _).far (p := ⟨gm, 1, none⟩) (by simp; omega) _, ?_, (ho.other h.m 0 _).other (h.m.set_ 0 _) 1 _, hl, hm, (h.bel.setCell (p := ⟨gm, 0, none⟩) (by simp; omega) _).setCell (p := ⟨gm, 1, none⟩) (by simp; omega) _, hlt⟩
  simpa using (h.m.set_ 0 (.int .i64 s'.1)).set_ 1 (.slice A' n' c')
end
end Go.Proofs.YtohinklkcinjpaaGreat
namespace Go.Proofs.YtohinklkcinjpaaGreat
open Go Go.RowKit
set_option linter.unusedVariables false
def sList : ByteArray := ⟨#[76, 105, 115, 116]⟩
def sNum : ByteArray := ⟨#[78, 117, 109]⟩
def sText : ByteArray := ⟨#[84, 101, 120, 116]⟩
def sSum : ByteArray := ⟨#[83, 117, 109]⟩
def sItem : ByteArray := ⟨#[105, 116, 101, 109]⟩
def sNote : ByteArray := ⟨#[110, 111, 116, 101]⟩
def awC : Nat → ByteArray
  | 0 => sNum
  | 1 => sText
  | 2 => sSum
  | _ => sNum
def awR : Nat → ByteArray
  | 1 => sNote
  | _ => sItem
def awP : Nat → Int
  | 2 => 1
  | _ => 0
def awK : Nat → List Int
  | 0 => []
  | 1 => [2]
  | 2 => [2, 3]
  | 3 => [2, 4, 3]
  | _ => [5, 2, 4, 3]
def awT : Nat → List Nd
  | 0 => []
  | k + 1 => awT k ++ [⟨k + 2, awC k, 1, awR k, [], [], []⟩]
/-- the model behind so many rows -/
def awS (k : Nat) : List Nd := ⟨1, sList, 0, ⟨#[]⟩, [], awK k, []⟩ :: awT k
theorem aw_first : addE 1 [] 0 ⟨#[]⟩ 0 sList = 0 ∧ addL 1 [] 0 ⟨#[]⟩ sList (admV 1 [] 0 ⟨#[]⟩ 0 1 1).1.toNat = awS 0 := by
  constructor <;> kernel_rfl
theorem aw_step (k : Nat) (hk : k < 4) : addE (k + 2) (awS k) 1 (awR k) (awP k) (awC k) = 0 ∧ addL (k + 2) (awS k) 1 (awR k) (awC k) (admV (k + 2) (awS k) 1 (awR k) (awP k) 1 1).1.toNat = awS (k + 1) := by
  match k, hk with
  | 0, _ => constructor <;> kernel_rfl
  | 1, _ => constructor <;> kernel_rfl
  | 2, _ => constructor <;> kernel_rfl
  | 3, _ => constructor <;> kernel_rfl
theorem aw_find : (findV 6 (awS 4) 1).2 = true ∧ (findV 6 (awS 4) 1).1.kids = [5, 2, 4, 3] := by constructor <;> kernel_rfl
theorem aw_move : moveE 6 (awS 4) 1 2 sItem 0 = 21 := by kernel_rfl
theorem aw_kids : kidsR 6 (awS 4) 1 sItem = [5, 2, 4] := by kernel_rfl
theorem aw_right : rightB 6 (awS 4) = true := by kernel_rfl
theorem aw_depth : depthR 6 (awS 4) 4 = 2 := by kernel_rfl
theorem aw_fits (k : Nat) (hk : k ≤ 4) : ∀ nd ∈ awS k, nd.props.length = 0 ∧ nd.refs.length = 0 ∧ nd.kids.length ≤ 4 := by
  match k, hk with
  | 0, _ => simp [awS, awT, awK]
  | 1, _ => simp [awS, awT, awK]
  | 2, _ => simp [awS, awT, awK]
  | 3, _ => simp [awS, awT, awK]
  | 4, _ => simp [awS, awT, awK]
end Go.Proofs.YtohinklkcinjpaaGreat
namespace Go.Proofs.YtohinklkcinjpaaGreat
open Go Go.RowKit Go.Sort
set_option linter.unusedVariables false
attribute [local go_sem ↓] Go.wp_at_zero Go.wp_at_succ
/-- a box with a model of the call's own -/
structure BM (w : World) (gm : Nat) (next : Int) (nds : List Nd) (A : Option Addr) (n c : Nat) (l : List (Nd × Leaf)) (X : World) : Prop where
  m : Blk X gm 26 #[.int .i64 next, .slice A n c]
  own : OwnM X w.heap.size (.slice A n c) l
  len : l.length = n
  map_ : l.map (·.1) = nds
  bel : Below w.heap.size w X
  le : w.heap.size ≤ gm
section
variable {w X X' : World} {gm : Nat} {next : Int} {nds : List Nd} {A : Option Addr} {n c : Nat} {l : List (Nd × Leaf)}
theorem BM.after (h : BM w gm next nds A n c l X) (hb : Below X.heap.size X X') : BM w gm next nds A n c l X' := ⟨h.m.after hb, h.own.after hb, h.len, h.map_, h.bel.trans (hb.mono h.bel.size), h.le⟩
theorem BM.nodes (h : BM w gm next nds A n c l X) : NodesIn X 0 X.heap.size A n c nds := by
  rw [← h.map_]
  exact (h.own.nodesIn h.len).mono (Nat.zero_le _) (Nat.le_refl _)
theorem BM.set (h : BM w gm next nds A n c l X) {next' : Int} {nds' : List Nd} {A' : Option Addr} {n' c' : Nat} {l' : List (Nd × Leaf)} (ho : OwnM X w.heap.size (.slice A' n' c') l') (hl : l'.length = n') (hm : l'.map (·.1) = nds') :
    BM w gm next' nds' A' n' c' l' ((X.setCell ⟨gm, 0, none⟩ (.int .i64 next')).setCell ⟨gm, 1, none⟩ (.slice A' n' c')) := by
  have hle := h.le
  refine ⟨?_, (ho.other h.m 0 _).other (h.m.set_ 0 _) 1 _, hl, hm, (h.bel.setCell (p := ⟨gm, 0, none⟩) hle _).setCell (p := ⟨gm, 1, none⟩) hle _, hle⟩
  simpa using (h.m.set_ 0 (.int .i64 next')).set_ 1 (.slice A' n' c')
end
theorem aw_added {w w' : World} {next : Int} {nds nds' : List Nd} {parent at_ : Int} {role con : ByteArray} {e : Ending} (h : AddPost w next nds parent role at_ con e w') (h0 : addE next nds parent role at_ con = 0) (hl : addL next nds parent role con (admV next nds parent role at_ 1 1).1.toNat = nds') :
    ∃ (A : Option Addr) (n c : Nat) (l : List (Nd × Leaf)), e = .returned (.tuple #[.agg #[.int .i64 (next + 1), .slice A n c], .int .i64 next, .int .i64 0]) ∧ OwnM w' w.heap.size (.slice A n c) l ∧ l.length = n ∧ l.map (·.1) = nds' ∧ Below w.heap.size w w' := by
  obtain ⟨hb, ⟨h1, he⟩ | ⟨h1, A, c, l, he, ho, hm⟩⟩ := h
  · exact absurd h0 h1
  · refine ⟨A, _, c, l, he, ho, ?_, hm.trans hl, hb⟩
    have h1 := congrArg List.length hm
    rw [List.length_map] at h1
    rw [h1]
    unfold addL
    split <;> simp
theorem aw_fit (k : Nat) (hk : k ≤ 4) : ∀ nd ∈ awS k, Fits 1 nd := fun nd hnd => by
  have := aw_fits k hk nd hnd
  exact ⟨by omega, by omega, by omega⟩
/-- the three lists of awake -/
structure AwL (gs : Nat) (X : World) : Prop where
  c : Blk X gs 9 #[.string ⟨#[78, 117, 109]⟩, .string ⟨#[84, 101, 120, 116]⟩, .string ⟨#[83, 117, 109]⟩, .string ⟨#[78, 117, 109]⟩]
  r : Blk X (gs + 1) 9 #[.string ⟨#[105, 116, 101, 109]⟩, .string ⟨#[110, 111, 116, 101]⟩, .string ⟨#[105, 116, 101, 109]⟩, .string ⟨#[105, 116, 101, 109]⟩]
  p : Blk X (gs + 1 + 1) 3 #[.int .i64 0, .int .i64 0, .int .i64 1, .int .i64 0]
theorem AwL.after {gs : Nat} {X X' : World} (h : AwL gs X) (hb : Below X.heap.size X X') : AwL gs X' := ⟨h.c.after hb, h.r.after hb, h.p.after hb⟩
theorem AwL.far {gs g : Nat} {X : World} {cs : Array Value} (h : AwL gs X) (hg : Blk X g 26 cs) (i : Nat) (u : Value) : AwL gs (X.setCell ⟨g, i, none⟩ u) :=
  ⟨h.c.far (p := ⟨g, i, none⟩) (h.c.ne_ hg (by decide)) u, h.r.far (p := ⟨g, i, none⟩) (h.r.ne_ hg (by decide)) u, h.p.far (p := ⟨g, i, none⟩) (h.p.ne_ hg (by decide)) u⟩
theorem AwL.at_ {gs : Nat} {X : World} (h : AwL gs X) {k : Nat} (hk : k < 4) : X.cell? ⟨gs, k, none⟩ = some (.string (awC k)) ∧ X.cell? ⟨gs + 1, k, none⟩ = some (.string (awR k)) ∧ X.cell? ⟨gs + 1 + 1, k, none⟩ = some (.int .i64 (awP k)) := by
  match k, hk with
  | 0, _ => exact ⟨h.c.cell 0, h.r.cell 0, h.p.cell 0⟩
  | 1, _ => exact ⟨h.c.cell 1, h.r.cell 1, h.p.cell 1⟩
  | 2, _ => exact ⟨h.c.cell 2, h.r.cell 2, h.p.cell 2⟩
  | 3, _ => exact ⟨h.c.cell 3, h.r.cell 3, h.p.cell 3⟩
theorem ints_lit {X : World} {B : Nat} {Ax : Option Addr} {n cx : Nat} {l : List Int} {o : Array Value} (h : X.ownsRow B 3 1 (.slice Ax n cx) n (intCells l)) (hl : l.length = n) (ho : o = (intCells l).toArray) (hn : n ≤ maxLen) :
    Calls Tryz.prog 22 #[.slice Ax n cx, .slice (some ⟨X.heap.size, 0, none⟩) n n] (X.alloc (.cells o 3)) (Ret (X.alloc (.cells o 3)) (.bool true)) := by
  have hb := below_box X (.cells o 3)
  have h1 := own_row (own_after h hb)
  have h2 : IBlk (X.alloc (.cells o 3)) X.heap.size l := by subst ho; exact Blk.new _ _ _
  have := drew_ret (refInts_any _ _ _ 0 (X.alloc (.cells o 3)).heap.size Ax (some ⟨X.heap.size, 0, none⟩) n cx n n l l h1 (h2.row hl (Nat.le_refl _) hn (Nat.zero_le _) (by simp)))
  rwa [eqL_refl intE_refl] at this
theorem aw_sz (k : Nat) : (awC k).size ≤ maxLen ∧ (awR k).size ≤ maxLen := by
  match k with
  | 0 => decide
  | 1 => decide
  | 2 => decide
  | k + 3 => exact ⟨by show sNum.size ≤ maxLen; decide, by show sItem.size ≤ maxLen; decide⟩
set_option maxRecDepth 20000 in
set_option maxHeartbeats 1600000 in
theorem awake_any (w : World) : Calls Tryz.prog 7 #[] w (Ret w (.bool true)) := by
  have HAd1 : Hid (∀ X, Calls Tryz.prog 18 #[.agg #[.int .i64 1, .slice none 0 0], .int .i64 0, .string ⟨#[]⟩, .int .i64 0, .string ⟨#[76, 105, 115, 116]⟩] X fun e w' => ∃ (A : Option Addr) (n c : Nat) (l : List (Nd × Leaf)), e = .returned (.tuple #[.agg #[.int .i64 2, .slice A n c], .int .i64 1, .int .i64 0]) ∧ OwnM w' X.heap.size (.slice A n c) l ∧ l.length = n ∧ l.map (·.1) = awS 0 ∧ Below X.heap.size X w') := Lib.hid fun X => (add_any X 0 1 0 0 ⟨#[]⟩ sList none 0 0 [] (NodesIn.nil _ _ _) (Nat.zero_le _) (by decide) (by decide) (by simp)).mono fun e w' he => aw_added he aw_first.1 aw_first.2
  go_enter Tryz.func7, Tryz.ntmps7
  go_upto_region 2 with (first | (go_at_call 8; (with_reducible refine (new_any _).mono ?_); go_must (rintro e w1 ⟨rfl, hb1⟩; have HB1 := Lib.hid hb1; clear hb1)) | (go_at_call 18; (with_reducible refine (HAd1.out _).mono ?_); go_must (rintro e w2 ⟨A0, n0, c0, l0, rfl, ho2, hl2, hm2, hb2⟩; have HX : Hid (BM w w2.heap.size 2 (awS 0) A0 n0 c0 l0 (w2.alloc (.cells #[.int .i64 2, .slice A0 n0 c0] 26))) := Lib.hid ⟨Blk.new _ _ _, (ho2.mono HB1.out.size).after (below_box _ _), hl2, hm2, (HB1.out.trans (hb2.mono HB1.out.size)).trans ((below_box _ _).mono (Nat.le_trans HB1.out.size hb2.size)), Nat.le_trans HB1.out.size hb2.size⟩; clear ho2 hl2 hm2 hb2 HB1)))
  generalize w2.alloc (.cells #[.int .i64 2, .slice A0 n0 c0] 26) = X2 at HX ⊢
  generalize w2.heap.size = gm at HX ⊢
  have m0 := (HX.out.m.cell 0).trans (show _ = some (.int .i64 2) from rfl)
  have HL0 : Hid (AwL X2.heap.size (((X2.alloc (.cells #[.string ⟨#[78, 117, 109]⟩, .string ⟨#[84, 101, 120, 116]⟩, .string ⟨#[83, 117, 109]⟩, .string ⟨#[78, 117, 109]⟩] 9)).alloc (.cells #[.string ⟨#[105, 116, 101, 109]⟩, .string ⟨#[110, 111, 116, 101]⟩, .string ⟨#[105, 116, 101, 109]⟩, .string ⟨#[105, 116, 101, 109]⟩] 9)).alloc (.cells #[.int .i64 0, .int .i64 0, .int .i64 1, .int .i64 0] 3)) ∧ Below X2.heap.size X2 (((X2.alloc (.cells #[.string ⟨#[78, 117, 109]⟩, .string ⟨#[84, 101, 120, 116]⟩, .string ⟨#[83, 117, 109]⟩, .string ⟨#[78, 117, 109]⟩] 9)).alloc (.cells #[.string ⟨#[105, 116, 101, 109]⟩, .string ⟨#[110, 111, 116, 101]⟩, .string ⟨#[105, 116, 101, 109]⟩, .string ⟨#[105, 116, 101, 109]⟩] 9)).alloc (.cells #[.int .i64 0, .int .i64 0, .int .i64 1, .int .i64 0] 3))) := Lib.hid ⟨⟨((Blk.new _ _ _).alloc _).alloc _, (Blk.new' (by simp)).alloc _, Blk.new' (by simp)⟩, below_more (below_more (below_more (Below.refl _ _) _) _) _⟩
  go_upto_region 5 with (fail)
  replace HX := Lib.hid (HX.out.after HL0.out.2)
  replace HL0 := Lib.hid HL0.out.1
  generalize ((X2.alloc (.cells #[.string ⟨#[78, 117, 109]⟩, .string ⟨#[84, 101, 120, 116]⟩, .string ⟨#[83, 117, 109]⟩, .string ⟨#[78, 117, 109]⟩] 9)).alloc (.cells #[.string ⟨#[105, 116, 101, 109]⟩, .string ⟨#[110, 111, 116, 101]⟩, .string ⟨#[105, 116, 101, 109]⟩, .string ⟨#[105, 116, 101, 109]⟩] 9)).alloc (.cells #[.int .i64 0, .int .i64 0, .int .i64 1, .int .i64 0] 3) = X3 at HX HL0 ⊢
  generalize X2.heap.size = gs at HL0 ⊢
  clear m0 HAd1
  go_wp2_with fail
  go_loopw [2, 3, 7] (fun v2 v3 v7 wr => ∃ (k : Nat) (A : Option Addr) (n c : Nat) (l : List (Nd × Leaf)), k ≤ 4 ∧ v2 = .int .i64 (k + 1) ∧ v3 = .int .i64 0 ∧ v7 = .int .i64 k ∧ Hid (BM w gm (k + 2) (awS k) A n c l wr) ∧ Hid (AwL gs wr)) (fun _ _ v _ => 4 - (intOf v).toNat)
  case atStart => exact ⟨0, A0, n0, c0, l0, Nat.zero_le _, rfl, rfl, rfl, HX, HL0⟩
  case round =>
    clear HX HL0
    obtain ⟨k, A, n, c, l, hk4, rfl, rfl, rfl, HX, HL⟩ := hrel
    rename World => wr
    by_cases hk : k < 4
    · have HSof : Hid (∀ X, AwL gs X → X.cell? ⟨gs, k, none⟩ = some (.string (awC k)) ∧ X.cell? ⟨gs + 1, k, none⟩ = some (.string (awR k)) ∧ X.cell? ⟨gs + 1 + 1, k, none⟩ = some (.int .i64 (awP k))) := Lib.hid fun X hX => hX.at_ hk
      have HAd : Hid (∀ Y, BM w gm (k + 2) (awS k) A n c l Y → Calls Tryz.prog 18 #[.agg #[.int .i64 (k + 2), .slice A n c], .int .i64 1, .string (awR k), .int .i64 (awP k), .string (awC k)] Y fun e w' => ∃ (A : Option Addr) (n c : Nat) (l : List (Nd × Leaf)), e = .returned (.tuple #[.agg #[.int .i64 ((k : Int) + 2 + 1), .slice A n c], .int .i64 ((k : Int) + 2), .int .i64 0]) ∧ OwnM w' Y.heap.size (.slice A n c) l ∧ l.length = n ∧ l.map (·.1) = awS (k + 1) ∧ Below Y.heap.size Y w') := Lib.hid fun Y hY => (add_any Y Y.heap.size (k + 2) 1 (awP k) (awR k) (awC k) A n c (awS k) hY.nodes (Nat.le_refl _) (aw_sz k).2 (aw_sz k).1 (aw_fit k hk4)).mono fun e w' he => aw_added he (aw_step k hk).1 (aw_step k hk).2
      go_upto_region 8 with (fail)
      replace HX := Lib.hid (HX.out.after (below_drew1 _))
      replace HL := Lib.hid (HL.out.after (below_drew1 _))
      refine wp_region_held (S := fun w' => w'.cell? ⟨gs, k, none⟩ = some (.string (awC k)) ∧ w'.cell? ⟨gs + 1, k, none⟩ = some (.string (awR k)) ∧ w'.cell? ⟨gs + 1 + 1, k, none⟩ = some (.int .i64 (awP k))) (by kernel_rfl) ?_
      show wpAnyH _ _ _ _ _ 21 (Array.replicate 21 false) _ wr.drew
      generalize wr.drew = wz at HX HL ⊢
      have hHeld : (fun w' => w'.cell? ⟨gs, k, none⟩ = some (.string (awC k)) ∧ w'.cell? ⟨gs + 1, k, none⟩ = some (.string (awR k)) ∧ w'.cell? ⟨gs + 1 + 1, k, none⟩ = some (.int .i64 (awP k))) wz := HSof.out _ HL.out
      have m0 := (HX.out.m.cell 0).trans (show _ = some (.int .i64 (k + 2)) from rfl)
      have m1 := (HX.out.m.cell 1).trans (show _ = some (.slice A n c) from rfl)
      refine wpAnyH_take (i := 1) (v := (.slice (some ⟨gs + 1, 0, none⟩) 4 4)) rfl (by kernel_rfl) (by kernel_rfl) (by kernel_rfl) (fun _ _ _ h => h) (Or.inl ⟨by rfl, ?yt_1⟩) (by assumption) ?qt_1
      case yt_1 => (intro w hSw; (try dsimp only at hSw); go_simp)
      case qt_1 =>
        (try simp only [Act.put]); (try simp only [List.setIfInBounds_toArray])
        refine wpAnyH_take (i := 2) (v := (.int .i64 k)) rfl (by kernel_rfl) (by kernel_rfl) (by kernel_rfl) (fun _ _ _ h => h) (Or.inl ⟨by rfl, ?yt_2⟩) (by assumption) ?qt_2
        case yt_2 => (intro w hSw; (try dsimp only at hSw); go_simp)
        case qt_2 =>
          (try simp only [Act.put]); (try simp only [List.setIfInBounds_toArray])
          refine wpAnyH_take (i := 3) (v := (.pointer (some ⟨gs + 1, k, none⟩))) rfl (by kernel_rfl) (by kernel_rfl) (by kernel_rfl) (fun _ _ _ h => h) (Or.inl ⟨by rfl, ?yt_3⟩) (by assumption) ?qt_3
          case yt_3 => (intro w hSw; (try dsimp only at hSw); go_simp)
          case qt_3 =>
            (try simp only [Act.put]); (try simp only [List.setIfInBounds_toArray])
            refine wpAnyH_take (i := 4) (v := (.string (awR k))) rfl (by kernel_rfl) (by kernel_rfl) (by kernel_rfl) (fun _ _ _ h => h) (Or.inl ⟨by rfl, ?yt_4⟩) (by assumption) ?qt_4
            case yt_4 => (intro w hSw; (try dsimp only at hSw); go_simp)
            case qt_4 =>
              (try simp only [Act.put]); (try simp only [List.setIfInBounds_toArray])
              refine wpAnyH_take (i := 5) (v := (.slice (some ⟨gs + 1 + 1, 0, none⟩) 4 4)) rfl (by kernel_rfl) (by kernel_rfl) (by kernel_rfl) (fun _ _ _ h => h) (Or.inl ⟨by rfl, ?yt_5⟩) (by assumption) ?qt_5
              case yt_5 => (intro w hSw; (try dsimp only at hSw); go_simp)
              case qt_5 =>
                (try simp only [Act.put]); (try simp only [List.setIfInBounds_toArray])
                refine wpAnyH_take (i := 6) (v := (.int .i64 k)) rfl (by kernel_rfl) (by kernel_rfl) (by kernel_rfl) (fun _ _ _ h => h) (Or.inl ⟨by rfl, ?yt_6⟩) (by assumption) ?qt_6
                case yt_6 => (intro w hSw; (try dsimp only at hSw); go_simp)
                case qt_6 =>
                  (try simp only [Act.put]); (try simp only [List.setIfInBounds_toArray])
                  refine wpAnyH_take (i := 7) (v := (.pointer (some ⟨gs + 1 + 1, k, none⟩))) rfl (by kernel_rfl) (by kernel_rfl) (by kernel_rfl) (fun _ _ _ h => h) (Or.inl ⟨by rfl, ?yt_7⟩) (by assumption) ?qt_7
                  case yt_7 => (intro w hSw; (try dsimp only at hSw); go_simp)
                  case qt_7 =>
                    (try simp only [Act.put]); (try simp only [List.setIfInBounds_toArray])
                    refine wpAnyH_take (i := 8) (v := (.int .i64 (awP k))) rfl (by kernel_rfl) (by kernel_rfl) (by kernel_rfl) (fun _ _ _ h => h) (Or.inl ⟨by rfl, ?yt_8⟩) (by assumption) ?qt_8
                    case yt_8 => (intro w hSw; (try dsimp only at hSw); go_simp)
                    case qt_8 =>
                      (try simp only [Act.put]); (try simp only [List.setIfInBounds_toArray])
                      refine wpAnyH_take (i := 9) (v := (.slice (some ⟨gs, 0, none⟩) 4 4)) rfl (by kernel_rfl) (by kernel_rfl) (by kernel_rfl) (fun _ _ _ h => h) (Or.inl ⟨by rfl, ?yt_9⟩) (by assumption) ?qt_9
                      case yt_9 => (intro w hSw; (try dsimp only at hSw); go_simp)
                      case qt_9 =>
                        (try simp only [Act.put]); (try simp only [List.setIfInBounds_toArray])
                        refine wpAnyH_take (i := 10) (v := (.int .i64 k)) rfl (by kernel_rfl) (by kernel_rfl) (by kernel_rfl) (fun _ _ _ h => h) (Or.inl ⟨by rfl, ?yt_10⟩) (by assumption) ?qt_10
                        case yt_10 => (intro w hSw; (try dsimp only at hSw); go_simp)
                        case qt_10 =>
                          (try simp only [Act.put]); (try simp only [List.setIfInBounds_toArray])
                          refine wpAnyH_take (i := 11) (v := (.pointer (some ⟨gs, k, none⟩))) rfl (by kernel_rfl) (by kernel_rfl) (by kernel_rfl) (fun _ _ _ h => h) (Or.inl ⟨by rfl, ?yt_11⟩) (by assumption) ?qt_11
                          case yt_11 => (intro w hSw; (try dsimp only at hSw); go_simp)
                          case qt_11 =>
                            (try simp only [Act.put]); (try simp only [List.setIfInBounds_toArray])
                            refine wpAnyH_take (i := 12) (v := (.string (awC k))) rfl (by kernel_rfl) (by kernel_rfl) (by kernel_rfl) (fun _ _ _ h => h) (Or.inl ⟨by rfl, ?yt_12⟩) (by assumption) ?qt_12
                            case yt_12 => (intro w hSw; (try dsimp only at hSw); go_simp)
                            case qt_12 =>
                              (try simp only [Act.put]); (try simp only [List.setIfInBounds_toArray])
                              refine wpAnyH_ready (rs := [0]) (by kernel_rfl) (by simp) ?_
                              refine AllReadyH.cons rfl (fun K hK => ?st_13) ?mt_13
                              case st_13 =>
                                go_simp
                                refine hK.out _ _ ?kt_13 (fun hHeld => ?qt_13)
                                case kt_13 => ((try dsimp only); first | exact HSof.out _ HL6.out | exact HSof.out _ HL.out)
                                case qt_13 =>
                                  clear hK K
                                  (try simp only [Act.put]); (try simp only [List.setIfInBounds_toArray])
                                  refine wpAnyH_ready (rs := [13]) (by kernel_rfl) (by simp) ?_
                                  refine AllReadyH.cons rfl (fun K hK => ?st_14) ?mt_14
                                  case st_14 =>
                                    (refine step_call _ (by rfl) 18 #[.agg #[.int .i64 (k + 2), .slice A n c], .int .i64 1, .string (awR k), .int .i64 (awP k), .string (awC k)] (by go_simp) (HAd.out _ HX.out) ?_; rintro e w5 ⟨A5, n5, c5, l5, rfl, ho5, hl5, hm5, hb5⟩; refine ⟨_, rfl, ?_⟩; have hX5 := HX.out.after hb5; have hL5 := HL.out.after hb5; have p0 := (hX5.m.cell 0).trans (show _ = some (.int .i64 (k + 2)) from rfl); have p1 := (hX5.m.cell 1).trans (show _ = some (.slice A n c) from rfl); have p2 := hX5.m.frozen 0; have p3 := hX5.m.frozen 1; have HX6 := Lib.hid (hX5.set (next' := (k : Int) + 2 + 1) (ho5.mono HX.out.bel.size) hl5 hm5); have HL6 := Lib.hid ((hL5.far hX5.m 0 (.int .i64 ((k : Int) + 2 + 1))).far (hX5.m.set_ 0 _) 1 (.slice A5 n5 c5)); replace HX := Lib.hid hX5; replace HL := Lib.hid hL5; clear hX5 hL5 ho5 hl5 hm5 hb5 m0 m1)
                                    refine hK.out _ _ ?kt_14 (fun hHeld => ?qt_14)
                                    case kt_14 => ((try dsimp only); first | exact HSof.out _ HL6.out | exact HSof.out _ HL.out)
                                    case qt_14 =>
                                      clear hK K
                                      (try simp only [Act.put]); (try simp only [List.setIfInBounds_toArray])
                                      refine wpAnyH_take (i := 14) (v := (.tuple #[.agg #[.int .i64 ((k : Int) + 2 + 1), .slice A5 n5 c5], .int .i64 ((k : Int) + 2), .int .i64 0])) rfl (by kernel_rfl) (by kernel_rfl) (by kernel_rfl) (fun _ _ _ h => h) (Or.inl ⟨by rfl, ?yt_15⟩) (by assumption) ?qt_15
                                      case yt_15 => (intro w hSw; (try dsimp only at hSw); go_simp)
                                      case qt_15 =>
                                        (try simp only [Act.put]); (try simp only [List.setIfInBounds_toArray])
                                        refine wpAnyH_take (i := 15) (v := (.agg #[.int .i64 ((k : Int) + 2 + 1), .slice A5 n5 c5])) rfl (by kernel_rfl) (by kernel_rfl) (by kernel_rfl) (fun _ _ _ h => h) (Or.inl ⟨by rfl, ?yt_16⟩) (by assumption) ?qt_16
                                        case yt_16 => (intro w hSw; (try dsimp only at hSw); go_simp)
                                        case qt_16 =>
                                          (try simp only [Act.put]); (try simp only [List.setIfInBounds_toArray])
                                          refine wpAnyH_take (i := 16) (v := (.int .i64 ((k : Int) + 2))) rfl (by kernel_rfl) (by kernel_rfl) (by kernel_rfl) (fun _ _ _ h => h) (Or.inl ⟨by rfl, ?yt_17⟩) (by assumption) ?qt_17
                                          case yt_17 => (intro w hSw; (try dsimp only at hSw); go_simp)
                                          case qt_17 =>
                                            (try simp only [Act.put]); (try simp only [List.setIfInBounds_toArray])
                                            refine wpAnyH_take (i := 17) (v := (.int .i64 0)) rfl (by kernel_rfl) (by kernel_rfl) (by kernel_rfl) (fun _ _ _ h => h) (Or.inl ⟨by rfl, ?yt_18⟩) (by assumption) ?qt_18
                                            case yt_18 => (intro w hSw; (try dsimp only at hSw); go_simp)
                                            case qt_18 =>
                                              (try simp only [Act.put]); (try simp only [List.setIfInBounds_toArray])
                                              refine wpAnyH_ready (rs := [18]) (by kernel_rfl) (by simp) ?_
                                              refine AllReadyH.cons rfl (fun K hK => ?st_19) ?mt_19
                                              case st_19 =>
                                                go_simp
                                                refine hK.out _ _ ?kt_19 (fun hHeld => ?qt_19)
                                                case kt_19 => ((try dsimp only); first | exact HSof.out _ HL6.out | exact HSof.out _ HL.out)
                                                case qt_19 =>
                                                  clear hK K
                                                  (try simp only [Act.put]); (try simp only [List.setIfInBounds_toArray])
                                                  refine wpAnyH_take (i := 19) (v := (.int .i64 ((k : Int) + 2))) rfl (by kernel_rfl) (by kernel_rfl) (by kernel_rfl) (fun _ _ _ h => h) (Or.inl ⟨by rfl, ?yt_20⟩) (by assumption) ?qt_20
                                                  case yt_20 => (intro w hSw; (try dsimp only at hSw); go_simp)
                                                  case qt_20 =>
                                                    (try simp only [Act.put]); (try simp only [List.setIfInBounds_toArray])
                                                    refine wpAnyH_take (i := 20) (v := (.int .i64 0)) rfl (by kernel_rfl) (by kernel_rfl) (by kernel_rfl) (fun _ _ _ h => h) (Or.inl ⟨by rfl, ?yt_21⟩) (by assumption) ?qt_21
                                                    case yt_21 => (intro w hSw; (try dsimp only at hSw); go_simp)
                                                    case qt_21 =>
                                                      (try simp only [Act.put]); (try simp only [List.setIfInBounds_toArray])
                                                      refine wpAnyH_done (by kernel_rfl) ?_ _
                                                      clear hHeld
                                                      generalize (w5.setCell ⟨gm, 0, none⟩ (.int .i64 ((k : Int) + 2 + 1))).setCell ⟨gm, 1, none⟩ (.slice A5 n5 c5) = Y at HX6 HL6 ⊢
                                                      clear p0 p1 p2 p3 HX HL
                                                      go_wp2_with fail
                                                      go_roundw
                                                      case rel => exact ⟨k + 1, A5, n5, c5, l5, by omega, by go_num, rfl, by go_num, Lib.hid (by have := HX6.out; rw [show ((k + 1 : Nat) : Int) + 2 = (k : Int) + 2 + 1 from by omega]; exact this), HL6⟩
                                                      case measure => simp only [intOf]; omega
                                              case mt_19 =>
                                                exact AllReadyH.nil
                                  case mt_14 =>
                                    exact AllReadyH.nil
                              case mt_13 =>
                                exact AllReadyH.nil
    · obtain rfl : k = 4 := by omega
      have HX4 : Hid (BM w gm 6 (awS 4) A n c l wr) := Lib.hid HX.out
      clear HX HL
      have HFi : Hid (∀ X, BM w gm 6 (awS 4) A n c l X → Calls Tryz.prog 13 #[.agg #[.int .i64 6, .slice A n c], .int .i64 1] X (FindIs X (findV 6 (awS 4) 1))) := Lib.hid fun X hX => find_any' X X.heap.size 6 1 A n c (awS 4) hX.nodes (Nat.le_refl _) (aw_fit 4 (Nat.le_refl _))
      have HMo : Hid (∀ X, BM w gm 6 (awS 4) A n c l X → Calls Tryz.prog 21 #[.agg #[.int .i64 6, .slice A n c], .int .i64 1, .int .i64 2, .string ⟨#[105, 116, 101, 109]⟩, .int .i64 0] X (fun e w' => e = .returned (.tuple #[.agg #[.int .i64 0, .slice none 0 0], .int .i64 21]) ∧ Below X.heap.size X w')) := Lib.hid fun X hX => (move_any X X.heap.size 6 1 2 0 sItem A n c (awS 4) hX.nodes (Nat.le_refl _) (by decide) (aw_fit 4 (Nat.le_refl _))).mono fun e w' he => by
        obtain ⟨nx, A', n', c', he, hb, h1, _⟩ := he
        rw [aw_move] at he h1
        obtain ⟨rfl, rfl, rfl, rfl⟩ := h1 (by decide)
        exact ⟨he, hb⟩
      have HKi : Hid (∀ X, BM w gm 6 (awS 4) A n c l X → Calls Tryz.prog 17 #[.agg #[.int .i64 6, .slice A n c], .int .i64 1, .string ⟨#[105, 116, 101, 109]⟩] X (fun e w' => ∃ (A9 : Option Addr) (c9 : Nat), e = .returned (.slice A9 3 c9) ∧ w'.ownsRow X.heap.size 3 1 (.slice A9 3 c9) 3 (intCells [5, 2, 4]) ∧ Below X.heap.size X w')) := Lib.hid fun X hX => (kidsQ_any X X.heap.size 6 1 sItem A n c (awS 4) hX.nodes (Nat.le_refl _)).mono fun e w' he => by
        rw [aw_kids] at he
        obtain ⟨v, he, hv, hb⟩ := he
        obtain ⟨A9, c9, rfl⟩ := own_form hv
        exact ⟨A9, c9, he, hv, hb⟩
      have HCk : Hid (∀ X, BM w gm 6 (awS 4) A n c l X → Calls Tryz.prog 12 #[.agg #[.int .i64 6, .slice A n c]] X (Ret X (.int .i64 0))) := Lib.hid fun X hX => by
        have := check_any X X.heap.size 6 A n c (awS 4) hX.nodes (Nat.le_refl _)
        unfold checkV at this
        rw [aw_right] at this
        exact this
      have HDe : Hid (∀ X, BM w gm 6 (awS 4) A n c l X → Calls Tryz.prog 28 #[.agg #[.int .i64 6, .slice A n c], .int .i64 4] X (Ret X (.int .i64 2))) := Lib.hid fun X hX => by
        have := depthQ_any X X.heap.size 6 4 A n c (awS 4) hX.nodes (Nat.le_refl _)
        rw [aw_depth] at this
        exact this
      have m0 := (HX4.out.m.cell 0).trans (show _ = some (.int .i64 6) from rfl)
      have m1 := (HX4.out.m.cell 1).trans (show _ = some (.slice A n c) from rfl)
      obtain ⟨nd, hnd⟩ : ∃ nd, findV 6 (awS 4) 1 = (nd, true) := ⟨(findV 6 (awS 4) 1).1, by rw [← aw_find.1]⟩
      have hkids : nd.kids = [5, 2, 4, 3] := by have := aw_find.2; rw [hnd] at this; exact this
      have HI1 : Hid (∀ (X : World) (B : Nat) (Ak : Option Addr) (ck : Nat), X.ownsRow B 3 1 (.slice Ak 4 ck) 4 (intCells [5, 2, 4, 3]) → Calls Tryz.prog 22 #[.slice Ak 4 ck, .slice (some ⟨X.heap.size, 0, none⟩) 4 4] (X.alloc (.cells #[.int .i64 5, .int .i64 2, .int .i64 4, .int .i64 3] 3)) (Ret (X.alloc (.cells #[.int .i64 5, .int .i64 2, .int .i64 4, .int .i64 3] 3)) (.bool true))) := Lib.hid fun X B Ak ck h => ints_lit h rfl rfl (by decide)
      have HI2 : Hid (∀ (X : World) (B : Nat) (Ak : Option Addr) (ck : Nat), X.ownsRow B 3 1 (.slice Ak 3 ck) 3 (intCells [5, 2, 4]) → Calls Tryz.prog 22 #[.slice Ak 3 ck, .slice (some ⟨X.heap.size, 0, none⟩) 3 3] (X.alloc (.cells #[.int .i64 5, .int .i64 2, .int .i64 4] 3)) (Ret (X.alloc (.cells #[.int .i64 5, .int .i64 2, .int .i64 4] 3)) (.bool true))) := Lib.hid fun X B Ak ck h => ints_lit h rfl rfl (by decide)
      rw [hnd] at HFi
      have HKL : Hid (nd.kids.length = 4 ∧ nd.kids = [5, 2, 4, 3]) := Lib.hid ⟨by rw [hkids]; rfl, hkids⟩
      clear hnd
      go_upto_region 12 with (go_at_call 13; (with_reducible refine (HFi.out _ HX4.out).mono ?_); go_must (rintro e w5 ⟨⟨⟨Ap, np, cp⟩, ⟨Ak, nk, ck⟩, ⟨Ar, nr, cr⟩⟩, rfl, hlf, hb5⟩; obtain rfl : nk = 4 := (show nk = nd.kids.length from hlf.kn).trans HKL.out.1; have hrk : w5.ownsRow w.heap.size 3 1 (.slice Ak 4 ck) 4 (intCells [5, 2, 4, 3]) := HKL.out.2 ▸ (own_mono hlf.k HX4.out.bel.size); have HY := Lib.hid (HX4.out.after hb5); have HK := Lib.hid hrk; clear hlf hb5 hrk))
      have HN : Hid (Blk (w5.alloc (.cells #[.int .i64 nd.id, .string nd.con, .int .i64 nd.par, .string nd.role, .slice Ap np cp, .slice Ak 4 ck, .slice Ar nr cr] 41)) w5.heap.size 41 #[.int .i64 nd.id, .string nd.con, .int .i64 nd.par, .string nd.role, .slice Ap np cp, .slice Ak 4 ck, .slice Ar nr cr]) := Lib.hid (Blk.new _ _ _)
      replace HY := Lib.hid (HY.out.after (below_box _ (.cells #[.int .i64 nd.id, .string nd.con, .int .i64 nd.par, .string nd.role, .slice Ap np cp, .slice Ak 4 ck, .slice Ar nr cr] 41)))
      replace HK := Lib.hid (own_after HK.out (below_box _ (.cells #[.int .i64 nd.id, .string nd.con, .int .i64 nd.par, .string nd.role, .slice Ap np cp, .slice Ak 4 ck, .slice Ar nr cr] 41)))
      generalize w5.alloc (.cells #[.int .i64 nd.id, .string nd.con, .int .i64 nd.par, .string nd.role, .slice Ap np cp, .slice Ak 4 ck, .slice Ar nr cr] 41) = X6 at HN HY HK ⊢
      generalize w5.heap.size = g8 at HN ⊢
      clear m0 m1 hkids
      have m0 := (HY.out.m.cell 0).trans (show _ = some (.int .i64 6) from rfl)
      have m1 := (HY.out.m.cell 1).trans (show _ = some (.slice A n c) from rfl)
      go_upto_region 13 with (go_at_call 21; (with_reducible refine (HMo.out _ HY.out).mono ?_); go_must (rintro e w6 ⟨rfl, hb6⟩; replace HY := Lib.hid (HY.out.after hb6); replace HN := Lib.hid (HN.out.after hb6); replace HK := Lib.hid (own_after HK.out hb6); clear hb6))
      have hbx := below_box w6 (.cells #[.int .i64 0, .slice none 0 0] 26)
      replace HY := Lib.hid (HY.out.after hbx)
      replace HN := Lib.hid (HN.out.after hbx)
      replace HK := Lib.hid (own_after HK.out hbx)
      clear hbx m0 m1
      generalize w6.alloc (.cells #[.int .i64 0, .slice none 0 0] 26) = X7 at HY HN HK ⊢
      have n5 := (HN.out.cell 5).trans (show _ = some (.slice Ak 4 ck) from rfl)
      go_wp2_with (first | (go_at_call 22; (with_reducible refine (HI1.out _ _ _ _ HK.out).mono ?_); go_must (rintro e w8 ⟨rfl, hb8⟩; have HY8 := Lib.hid ((HY.out.after (below_box _ _)).after hb8); clear hb8; have m0 := (HY8.out.m.cell 0).trans (show _ = some (.int .i64 6) from rfl); have m1 := (HY8.out.m.cell 1).trans (show _ = some (.slice A n c) from rfl))) | (go_at_call 17; (with_reducible refine (HKi.out _ HY8.out).mono ?_); go_must (rintro e w9 ⟨A9, c9, rfl, hv9, hb9⟩; have HY9 := Lib.hid (HY8.out.after hb9); have HK9 := Lib.hid hv9; clear hv9 hb9)) | (go_at_call 22; (with_reducible refine (HI2.out _ _ _ _ HK9.out).mono ?_); go_must (rintro e wa ⟨rfl, hba⟩; have HYa := Lib.hid ((HY9.out.after (below_box _ _)).after hba); clear hba; have p0 := (HYa.out.m.cell 0).trans (show _ = some (.int .i64 6) from rfl); have p1 := (HYa.out.m.cell 1).trans (show _ = some (.slice A n c) from rfl))) | (go_at_call 12; (with_reducible refine (HCk.out _ HYa.out).mono ?_); go_must (rintro e wb ⟨rfl, hbb⟩; have HYb := Lib.hid (HYa.out.after hbb); clear hbb; have q0 := (HYb.out.m.cell 0).trans (show _ = some (.int .i64 6) from rfl); have q1 := (HYb.out.m.cell 1).trans (show _ = some (.slice A n c) from rfl))) | (go_at_call 28; (with_reducible refine (HDe.out _ HYb.out).mono ?_); go_must (rintro e wc ⟨rfl, hbc⟩; have HYc := Lib.hid (HYb.out.after hbc); clear hbc)))
      go_ret
      exact ret_b (by simp) rfl HYc.out.bel
end Go.Proofs.YtohinklkcinjpaaGreat
namespace Go.Proofs.YtohinklkcinjpaaGreat
open Go Go.RowKit Go.Sort
set_option linter.unusedVariables false
attribute [local go_sem ↓] Go.wp_at_zero Go.wp_at_succ
section
variable {w X X' : World} {next : Int} {A : Option Addr} {n c : Nat} {ov sv : Value} {out st : List Int}
theorem DW.node_set (h : DW w next A n c ov out sv st X) {g : Nat} {cs : Array Value} (hB : Blk X g 41 cs) (hg : w.heap.size ≤ g) (i : Nat) (u : Value) : DW w next A n c ov out sv st (X.setCell ⟨g, i, none⟩ u) :=
  ⟨⟨h.m.a.far (p := ⟨g, i, none⟩) (h.m.a.ne_ hB (by decide)) u, h.m.bel.setCell (p := ⟨g, i, none⟩) hg u⟩, own_other h.o hB (by decide) i u, own_other h.s hB (by decide) i u, h.ne⟩
/-- .. and the box of a node -/
structure UB (w : World) (next : Int) (A : Option Addr) (n c : Nat) (ov : Value) (out : List Int) (sv : Value) (st : List Int) (g : Nat) (cs : Array Value) (X : World) : Prop where
  d : DW w next A n c ov out sv st X
  b : Blk X g 41 cs
  le : w.heap.size ≤ g
theorem UB.after {g : Nat} {cs : Array Value} (h : UB w next A n c ov out sv st g cs X) (hb : Below X.heap.size X X') : UB w next A n c ov out sv st g cs X' := ⟨h.d.after hb, h.b.after hb, h.le⟩
theorem UB.set {g : Nat} {cs : Array Value} (h : UB w next A n c ov out sv st g cs X) (i : Nat) (u : Value) : UB w next A n c ov out sv st g (cs.setIfInBounds i u) (X.setCell ⟨g, i, none⟩ u) := ⟨h.d.node_set h.b h.le i u, h.b.set_ i u, h.le⟩
theorem UB.lay {g : Nat} {a0 a1 a2 a3 a4 a5 a6 : Value} (h : UB w next A n c ov out sv st g #[a0, a1, a2, a3, a4, a5, a6] X) (u0 u1 u2 u3 u4 u5 u6 : Value) :
    UB w next A n c ov out sv st g #[u0, u1, u2, u3, u4, u5, u6] (((((((X.setCell ⟨g, 0, none⟩ u0).setCell ⟨g, 1, none⟩ u1).setCell ⟨g, 2, none⟩ u2).setCell ⟨g, 3, none⟩ u3).setCell ⟨g, 4, none⟩ u4).setCell ⟨g, 5, none⟩ u5).setCell ⟨g, 6, none⟩ u6) := by
  have := ((((((h.set 0 u0).set 1 u1).set 2 u2).set 3 u3).set 4 u4).set 5 u5).set 6 u6
  simpa using this
end
end Go.Proofs.YtohinklkcinjpaaGreat
namespace Go.Proofs.YtohinklkcinjpaaGreat
open Go Go.RowKit Go.Sort
set_option linter.unusedVariables false
attribute [local go_sem ↓] Go.wp_at_zero Go.wp_at_succ
/-- lists of the call's own, whatever they hold -/
structure SpL (w : World) (B : Nat) (L : Leaf) : Prop where
  p : ∃ xs, w.ownsRow B 94 2 (.slice L.p.A L.p.n L.p.c) L.p.n xs
  k : ∃ xs, w.ownsRow B 3 1 (.slice L.k.A L.k.n L.k.c) L.k.n xs
  r : ∃ xs, w.ownsRow B 60 2 (.slice L.r.A L.r.n L.r.c) L.r.n xs
theorem own_ex_set {w : World} {B size n : Nat} {e : TypeId} {v : Value} (h : ∃ xs, w.ownsRow B e size v n xs) (g i : Nat) (u : Value) : ∃ xs, (w.setCell ⟨g, i, none⟩ u).ownsRow B e size v n xs := by
  obtain ⟨xs, h⟩ := h
  rcases h.2 with ⟨hv, hn⟩ | ⟨g', cap, cur, rfl, hb, hg, rest⟩
  · exact ⟨xs, h.1, .inl ⟨hv, hn⟩⟩
  · by_cases e1 : g' = g
    · subst e1
      exact ⟨_, (World.ownsRow.stored h i u).1⟩
    · refine ⟨xs, h.1, .inr ⟨g', cap, cur, rfl, hb, ?_, rest⟩⟩
      rw [Below.heap_setCell _ ⟨g, i, none⟩ _ _ e1]
      exact hg
theorem SpL.set {w : World} {B : Nat} {L : Leaf} (h : SpL w B L) (g i : Nat) (u : Value) : SpL (w.setCell ⟨g, i, none⟩ u) B L := ⟨own_ex_set h.p g i u, own_ex_set h.k g i u, own_ex_set h.r g i u⟩
theorem SpL.after {w w' : World} {B : Nat} {L : Leaf} (h : SpL w B L) (hb : Below w.heap.size w w') : SpL w' B L := by
  obtain ⟨⟨a, h1⟩, ⟨b, h2⟩, ⟨c, h3⟩⟩ := h
  exact ⟨⟨a, own_after h1 hb⟩, ⟨b, own_after h2 hb⟩, ⟨c, own_after h3 hb⟩⟩
/-- a cell of such a list can be written -/
theorem own_cell {w : World} {B size n c : Nat} {e : TypeId} {A : Option Addr} (h : ∃ xs, w.ownsRow B e size (.slice A n c) n xs) (hn : 0 < n) :
    ∃ g cs, A = some ⟨g, 0, none⟩ ∧ Blk w g e cs ∧ B ≤ g ∧ n ≤ c ∧ c ≤ maxLen ∧ ∀ j, j < n * size → (∃ u, w.cell? ⟨g, j, none⟩ = some u) ∧ w.frozen? ⟨g, j, none⟩ = false := by
  obtain ⟨xs, h⟩ := h
  have hr := own_row h
  rcases h.2 with ⟨hv, h0⟩ | ⟨g, cap, cur, hv, hb, hg, h1, h2, rest⟩
  · omega
  · injection hv with hA _ hc
    subst hA hc
    refine ⟨g, cur, rfl, hg, hb, h1, h2, fun j hj => ⟨?_, World.ownsRow.frozenAt h j⟩⟩
    rw [World.ownsRow.cellAt h j hj, List.getElem?_eq_getElem (by rw [h.1]; exact hj)]
    exact ⟨_, rfl⟩
/-- a model of the call's own, whose lists are written over -/
structure SP (w : World) (B : Nat) (x : Int) (A : Option Addr) (n c : Nat) (l : List (Nd × Leaf)) (X : World) : Prop where
  m : Blk X w.heap.size 26 #[.int .i64 x, .slice A n c]
  own : OwnN X B (.slice A n c) l
  leaf : ∀ p ∈ l, SpL X B p.2
  bel : Below B w X
structure SB (w : World) (B : Nat) (x : Int) (A : Option Addr) (n c : Nat) (l : List (Nd × Leaf)) (g : Nat) (cs : Array Value) (X : World) : Prop where
  s : SP w B x A n c l X
  b : Blk X g 41 cs
section
variable {w X X' : World} {B : Nat} {x : Int} {A : Option Addr} {n c : Nat} {l : List (Nd × Leaf)}
theorem SP.after (h : SP w B x A n c l X) (hB : B ≤ X.heap.size) (hb : Below X.heap.size X X') : SP w B x A n c l X' := ⟨h.m.after hb, own_after h.own hb, fun p hp => (h.leaf p hp).after hb, h.bel.trans (hb.mono hB)⟩
theorem SP.set (h : SP w B x A n c l X) {g : Nat} {t : TypeId} {cs : Array Value} (hg : Blk X g t cs) (hB : B ≤ g) (h1 : 26 ≠ t) (h2 : 41 ≠ t) (i : Nat) (u : Value) : SP w B x A n c l (X.setCell ⟨g, i, none⟩ u) :=
  ⟨h.m.far (p := ⟨g, i, none⟩) (h.m.ne_ hg h1) u, own_other h.own hg h2 i u, fun p hp => (h.leaf p hp).set g i u, h.bel.setCell (p := ⟨g, i, none⟩) hB u⟩
theorem SB.set {gb : Nat} {cb : Array Value} (h : SB w B x A n c l gb cb X) {g : Nat} {t : TypeId} {cs : Array Value} (hg : Blk X g t cs) (hB : B ≤ g) (h1 : 26 ≠ t) (h2 : 41 ≠ t) (i : Nat) (u : Value) : SB w B x A n c l gb cb (X.setCell ⟨g, i, none⟩ u) :=
  ⟨h.s.set hg hB h1 h2 i u, h.b.far (p := ⟨g, i, none⟩) (h.b.ne_ hg h2) u⟩
theorem SP.node (h : SP w B x A n c l X) (hn : l.length = n) {i : Nat} {p : Nd × Leaf} (hp : l[i]? = some p) : ∃ g, A = some ⟨g, 0, none⟩ ∧ B ≤ g ∧ n ≤ c ∧ c ≤ maxLen ∧ NodeAt X g (i * 7) p.1 p.2 ∧ X.frozen? ⟨g, i * 7, none⟩ = false := by
  subst hn
  have hi : i < l.length := (List.getElem?_eq_some_iff.1 hp).1
  have h0 : X.ownsRow B 41 7 (.slice A l.length c) l.length (allCells l) := h.own
  obtain ⟨g, cs, rfl, hg, hB, h1, h2, hc⟩ := own_cell ⟨_, h0⟩ (by omega)
  have key : ∀ j u, j < 7 → (ndCells p)[j]? = some u → X.cell? ⟨g, i * 7 + j, none⟩ = some u := by
    intro j u hj hu
    rw [World.ownsRow.cellAt h0 (i * 7 + j) (by omega)]
    unfold allCells
    rw [flatN_get ndCells_len l i p hp j hj]
    exact hu
  exact ⟨g, rfl, hB, h1, h2, ⟨key 0 _ (by omega) rfl, key 1 _ (by omega) rfl, key 2 _ (by omega) rfl, key 3 _ (by omega) rfl, key 4 _ (by omega) rfl, key 5 _ (by omega) rfl, key 6 _ (by omega) rfl⟩, (hc (i * 7) (by omega)).2⟩
theorem SP.setId {g : Nat} (h : SP w B x (some ⟨g, 0, none⟩) n c l X) (hn : l.length = n) {i : Nat} {p : Nd × Leaf} (hp : l[i]? = some p) (z : Int) : SP w B x (some ⟨g, 0, none⟩) n c (l.set i ({ p.1 with id := z }, p.2)) (X.setCell ⟨g, i * 7, none⟩ (.int .i64 z)) := by
  subst hn
  have h0 : X.ownsRow B 41 7 (.slice (some ⟨g, 0, none⟩) l.length c) l.length (allCells l) := h.own
  obtain ⟨cs, hg, hB, _⟩ := own_blk h0
  have h2 := (World.ownsRow.stored h0 (i * 7 + 0) (.int .i64 z)).1
  rw [allCells_set hp (by omega) (q := ({ p.1 with id := z }, p.2)) rfl] at h2
  refine ⟨h.m.far (p := ⟨g, i * 7, none⟩) (h.m.ne_ hg (by decide)) _, ?_, fun q hq => ?_, h.bel.setCell (p := ⟨g, i * 7, none⟩) hB _⟩
  · unfold OwnN
    rw [List.length_set]
    exact h2
  · rcases List.mem_or_eq_of_mem_set hq with hq | rfl
    · exact (h.leaf q hq).set _ _ _
    · exact (h.leaf p (List.mem_of_getElem? hp)).set _ _ _
end
end Go.Proofs.YtohinklkcinjpaaGreat
namespace Go.Proofs.YtohinklkcinjpaaGreat
open Go Go.RowKit Go.Sort
set_option linter.unusedVariables false
attribute [local go_sem ↓] Go.wp_at_zero Go.wp_at_succ
/-- what lay above H is as it was -/
structure KH (H : Nat) (w X : World) : Prop where
  keep : ∀ g, H ≤ g → g < w.heap.size → X.heap[g]? = w.heap[g]?
  size : w.heap.size ≤ X.heap.size
theorem KH.refl (H : Nat) (w : World) : KH H w w := ⟨fun _ _ _ => rfl, Nat.le_refl _⟩
theorem KH.after {H : Nat} {w X X' : World} (h : KH H w X) (hb : Below X.heap.size X X') : KH H w X' := ⟨fun g h1 h2 => (hb.block g (Nat.lt_of_lt_of_le h2 h.size)).trans (h.keep g h1 h2), Nat.le_trans h.size hb.size⟩
theorem KH.set {H g : Nat} {w X : World} (h : KH H w X) (hg : g < H) (i : Nat) (u : Value) : KH H w (X.setCell ⟨g, i, none⟩ u) := ⟨fun k h1 h2 => (Below.heap_setCell _ ⟨g, i, none⟩ _ _ (by simp; omega)).trans (h.keep k h1 h2), by simpa [World.setCell] using h.size⟩
/-- lists that lie below H -/
structure LtL (H : Nat) (L : Leaf) : Prop where
  p : ∀ g, L.p.A = some ⟨g, 0, none⟩ → g < H
  k : ∀ g, L.k.A = some ⟨g, 0, none⟩ → g < H
  r : ∀ g, L.r.A = some ⟨g, 0, none⟩ → g < H
/-- a model of the call's own, whose lists are written over -/
structure SP2 (H : Nat) (w : World) (B : Nat) (x : Int) (A : Option Addr) (n c : Nat) (l : List (Nd × Leaf)) (X : World) : Prop where
  m : Blk X w.heap.size 26 #[.int .i64 x, .slice A n c]
  own : OwnN X B (.slice A n c) l
  leaf : ∀ p ∈ l, SpL X B p.2
  bel : Below B w X
  kh : KH H w X
  lt : ∀ p ∈ l, LtL H p.2
  lA : ∀ g, A = some ⟨g, 0, none⟩ → g < H
structure SB2 (H : Nat) (w : World) (B : Nat) (x : Int) (A : Option Addr) (n c : Nat) (l : List (Nd × Leaf)) (g : Nat) (cs : Array Value) (X : World) : Prop where
  s : SP2 H w B x A n c l X
  b : Blk X g 41 cs
section
variable {H : Nat} {w X X' : World} {B : Nat} {x : Int} {A : Option Addr} {n c : Nat} {l : List (Nd × Leaf)}
theorem SP2.after (h : SP2 H w B x A n c l X) (hB : B ≤ X.heap.size) (hb : Below X.heap.size X X') : SP2 H w B x A n c l X' := ⟨h.m.after hb, own_after h.own hb, fun p hp => (h.leaf p hp).after hb, h.bel.trans (hb.mono hB), h.kh.after hb, h.lt, h.lA⟩
theorem SP2.set (h : SP2 H w B x A n c l X) {g : Nat} {t : TypeId} {cs : Array Value} (hg : Blk X g t cs) (hB : B ≤ g) (hH : g < H) (h1 : 26 ≠ t) (h2 : 41 ≠ t) (i : Nat) (u : Value) : SP2 H w B x A n c l (X.setCell ⟨g, i, none⟩ u) :=
  ⟨h.m.far (p := ⟨g, i, none⟩) (h.m.ne_ hg h1) u, own_other h.own hg h2 i u, fun p hp => (h.leaf p hp).set g i u, h.bel.setCell (p := ⟨g, i, none⟩) hB u, h.kh.set hH i u, h.lt, h.lA⟩
theorem SB2.set {gb : Nat} {cb : Array Value} (h : SB2 H w B x A n c l gb cb X) {g : Nat} {t : TypeId} {cs : Array Value} (hg : Blk X g t cs) (hB : B ≤ g) (hH : g < H) (h1 : 26 ≠ t) (h2 : 41 ≠ t) (i : Nat) (u : Value) : SB2 H w B x A n c l gb cb (X.setCell ⟨g, i, none⟩ u) :=
  ⟨h.s.set hg hB hH h1 h2 i u, h.b.far (p := ⟨g, i, none⟩) (h.b.ne_ hg h2) u⟩
theorem SP2.node (h : SP2 H w B x A n c l X) (hn : l.length = n) {i : Nat} {p : Nd × Leaf} (hp : l[i]? = some p) : ∃ g, A = some ⟨g, 0, none⟩ ∧ B ≤ g ∧ n ≤ c ∧ c ≤ maxLen ∧ NodeAt X g (i * 7) p.1 p.2 ∧ X.frozen? ⟨g, i * 7, none⟩ = false := by
  subst hn
  have hi : i < l.length := (List.getElem?_eq_some_iff.1 hp).1
  have h0 : X.ownsRow B 41 7 (.slice A l.length c) l.length (allCells l) := h.own
  obtain ⟨g, cs, rfl, hg, hB, h1, h2, hc⟩ := own_cell ⟨_, h0⟩ (by omega)
  have key : ∀ j u, j < 7 → (ndCells p)[j]? = some u → X.cell? ⟨g, i * 7 + j, none⟩ = some u := by
    intro j u hj hu
    rw [World.ownsRow.cellAt h0 (i * 7 + j) (by omega)]
    unfold allCells
    rw [flatN_get ndCells_len l i p hp j hj]
    exact hu
  exact ⟨g, rfl, hB, h1, h2, ⟨key 0 _ (by omega) rfl, key 1 _ (by omega) rfl, key 2 _ (by omega) rfl, key 3 _ (by omega) rfl, key 4 _ (by omega) rfl, key 5 _ (by omega) rfl, key 6 _ (by omega) rfl⟩, (hc (i * 7) (by omega)).2⟩
theorem SP2.setId {g : Nat} (h : SP2 H w B x (some ⟨g, 0, none⟩) n c l X) (hn : l.length = n) {i : Nat} {p : Nd × Leaf} (hp : l[i]? = some p) (z : Int) : SP2 H w B x (some ⟨g, 0, none⟩) n c (l.set i ({ p.1 with id := z }, p.2)) (X.setCell ⟨g, i * 7, none⟩ (.int .i64 z)) := by
  subst hn
  have h0 : X.ownsRow B 41 7 (.slice (some ⟨g, 0, none⟩) l.length c) l.length (allCells l) := h.own
  obtain ⟨cs, hg, hB, _⟩ := own_blk h0
  have h2 := (World.ownsRow.stored h0 (i * 7 + 0) (.int .i64 z)).1
  rw [allCells_set hp (by omega) (q := ({ p.1 with id := z }, p.2)) rfl] at h2
  refine ⟨h.m.far (p := ⟨g, i * 7, none⟩) (h.m.ne_ hg (by decide)) _, ?_, fun q hq => ?_, h.bel.setCell (p := ⟨g, i * 7, none⟩) hB _, h.kh.set (h.lA g rfl) _ _, fun q hq => ?_, h.lA⟩
  · unfold OwnN
    rw [List.length_set]
    exact h2
  · rcases List.mem_or_eq_of_mem_set hq with hq | rfl
    · exact (h.leaf q hq).set _ _ _
    · exact (h.leaf p (List.mem_of_getElem? hp)).set _ _ _
  · rcases List.mem_or_eq_of_mem_set hq with hq | rfl
    · exact h.lt q hq
    · exact h.lt p (List.mem_of_getElem? hp)
end
end Go.Proofs.YtohinklkcinjpaaGreat

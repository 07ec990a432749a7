/-
  PLAIN: a model from which a node was taken: what is asked of it.
  WALKS: the document's: what is below a node, by a stack.
  WALKS: may a node stand there, also in a model from which one was taken; the document's count of levels.
  WALKS: slices.Contains of numbers.
  WALKS: the program's: a node is added.
-/
import Derived.Test.YtfljndlmafcjeaaZ14
namespace Go.Proofs.Ytfljndlmafcjeaa
open Go Go.RowKit Go.Sort
set_option linter.unusedVariables false
section
variable {f : Nd → Nd} {nds : List Nd}
theorem ixOf_map (hf : ∀ y, (f y).id = y.id) (x : Int) : ixOf (nds.map f) x = ixOf nds x := by
  unfold ixOf
  rw [List.findIdx?_map]
  congr 1
  funext y
  simp [hf]
theorem ndOf_map (hf : ∀ y, (f y).id = y.id) (x : Int) : ndOf (nds.map f) x = (ndOf nds x).map f := by
  unfold ndOf
  rw [ixOf_map hf]
  cases ixOf nds x with
  | none => rfl
  | some i => simp
theorem rise_map (hf : ∀ y, (f y).id = y.id) (h : Rise nds) : Rise (nds.map f) := by
  have key : ∀ (j : Nat) x, (nds.map f)[j]? = some x → ∃ y, nds[j]? = some y ∧ y.id = x.id := by
    intro j x hx
    rw [List.getElem?_map] at hx
    cases hy : nds[j]? with
    | none => rw [hy] at hx; cases hx
    | some y =>
      rw [hy] at hx
      obtain rfl : f y = x := by simpa using hx
      exact ⟨y, rfl, (hf y).symm⟩
  refine ⟨fun i nd hi => ?_, fun i j a b hij ha hb => ?_⟩
  · obtain ⟨y, h1, h2⟩ := key i nd hi
    rw [← h2]; exact h.pos i y h1
  · obtain ⟨y, h1, h2⟩ := key i a ha
    obtain ⟨z, h3, h4⟩ := key j b hb
    rw [← h2, ← h4]; exact h.lt i j y z hij h1 h3
theorem upI_map (hf : ∀ y, (f y).id = y.id) (hp : ∀ y, (f y).par = y.par) (x : Int) : ∀ k, upI (nds.map f) x k = upI nds x k
  | 0 => rfl
  | k + 1 => by
    rw [upI, upI, upI_map hf hp x k, ndOf_map hf]
    cases ndOf nds (upI nds x k) with
    | none => rfl
    | some y => exact hp y
theorem depthV_map (hf : ∀ y, (f y).id = y.id) (hp : ∀ y, (f y).par = y.par) (x : Int) : depthV (nds.map f) x = depthV nds x := by
  unfold depthV
  congr 1
  congr 1
  funext k
  rw [upI_map hf hp]
theorem depthIs_map (hf : ∀ y, (f y).id = y.id) (hp : ∀ y, (f y).par = y.par) {x : Int} {K : Nat} (h : DepthIs nds x K) : DepthIs (nds.map f) x K :=
  ⟨by rw [upI_map hf hp]; exact h.top, fun k hk => by
    obtain ⟨h1, nd, h2⟩ := h.way k hk
    rw [upI_map hf hp]
    exact ⟨h1, f nd, by rw [ndOf_map hf, h2]; rfl⟩⟩
end
/-- what is asked of a model to which a node is put -/
structure LaxM (next : Int) (nds : List Nd) : Prop where
  rise : Rise nds
  lo : 1 ≤ next
  hi : next ≤ 1048577
  len : nds.length ≤ 4096
  kok : ∀ nd ∈ nds, KOk nds nd
  nodup : ∀ nd ∈ nds, nd.kids.Nodup
  dep : ∀ x nd, ndOf nds x = some nd → DepthIs nds x (depthV nds x) ∧ 1 ≤ depthV nds x ∧ depthV nds x ≤ 64
theorem RightM.lax {next : Int} {nds : List Nd} (h : RightM next nds) : LaxM next nds := ⟨h.rise, h.lo, h.hi, h.len, fun nd hnd => h.kOk hnd, fun nd hnd => (h.kids hnd).2, fun x nd hx => h.depth hx⟩
/-- a node's parent -/
def parV (nds : List Nd) (id : Int) : Int := match ndOf nds id with
  | some nd => nd.par
  | none => 0
def takeF (par id : Int) (y : Nd) : Nd := if y.id = par then { y with kids := lessI id y.kids } else y
def takeL (nds : List Nd) (id : Int) : List Nd := nds.map (takeF (parV nds id) id)
theorem takeF_id (par id : Int) (y : Nd) : (takeF par id y).id = y.id := by unfold takeF; split <;> rfl
theorem takeF_par (par id : Int) (y : Nd) : (takeF par id y).par = y.par := by unfold takeF; split <;> rfl
theorem takeF_kids (par id : Int) (y : Nd) : ∀ k ∈ (takeF par id y).kids, k ∈ y.kids := by
  intro k hk
  unfold takeF at hk
  split at hk
  · exact (List.mem_filter.1 hk).1
  · exact hk
theorem takeF_kl (par id : Int) (y : Nd) : (takeF par id y).kids.length ≤ y.kids.length := by
  unfold takeF
  split
  · exact lessI_len _ _
  · exact Nat.le_refl _
theorem LaxM.take {next : Int} {nds : List Nd} (h : LaxM next nds) (id : Int) : LaxM next (takeL nds id) := by
  have hf := takeF_id (parV nds id) id
  have hp := takeF_par (parV nds id) id
  refine ⟨rise_map hf h.rise, h.lo, h.hi, by unfold takeL; rw [List.length_map]; exact h.len, fun nd hnd => ?_, fun nd hnd => ?_, fun x nd hx => ?_⟩
  · obtain ⟨y, hy, rfl⟩ := List.mem_map.1 hnd
    have hk := h.kok y hy
    refine ⟨rise_map hf h.rise, by unfold takeL; rw [List.length_map]; exact h.len, Nat.le_trans (takeF_kl ..) hk.kl, fun k hkk => ?_⟩
    obtain ⟨x, hx⟩ := hk.kids k (takeF_kids _ _ _ k hkk)
    exact ⟨_, by unfold takeL; rw [ndOf_map hf, hx]; rfl⟩
  · obtain ⟨y, hy, rfl⟩ := List.mem_map.1 hnd
    unfold takeF
    split
    · exact List.Sublist.nodup List.filter_sublist (h.nodup y hy)
    · exact h.nodup y hy
  · unfold takeL at hx ⊢
    rw [ndOf_map hf] at hx
    cases hy : ndOf nds x with
    | none => rw [hy] at hx; cases hx
    | some y =>
      obtain ⟨h1, h2, h3⟩ := h.dep x y hy
      rw [depthV_map hf hp]
      exact ⟨depthIs_map hf hp h1, h2, h3⟩
/-- .. of a root nothing is taken -/
theorem takeL_root {nds : List Nd} (hr : Rise nds) {id : Int} (h : parV nds id = 0) : takeL nds id = nds := by
  unfold takeL
  rw [h]
  conv => rhs; rw [← List.map_id nds]
  refine List.map_congr_left fun y hy => ?_
  obtain ⟨i, hi⟩ := List.getElem?_of_mem hy
  have := hr.pos i y hi
  unfold takeF
  rw [if_neg (by omega)]; rfl
/-- .. of another one its parent is turned alone -/
theorem takeL_below {nds : List Nd} (hr : Rise nds) {id : Int} {jj : Nat} {x : Nd} (hx : nds[jj]? = some x) (h : x.id = parV nds id) : takeL nds id = nds.set jj { x with kids := lessI id x.kids } := by
  unfold takeL
  rw [← h]
  apply List.ext_getElem?
  intro j
  rw [List.getElem?_map, List.getElem?_set]
  by_cases e : jj = j
  · subst e
    rw [if_pos rfl, if_pos (List.getElem?_eq_some_iff.1 hx).1, hx]
    simp [takeF]
  · rw [if_neg e]
    cases hy : nds[j]? with
    | none => rfl
    | some y =>
      have hne : y.id ≠ x.id := fun he => e (hr.inj hx hy he.symm)
      simp [takeF, hne]
section
variable (w : World) (B : Nat) (next id : Int) (g n c : Nat) (l : List (Nd × Leaf))
/-- take, of a model that is right -/
theorem take_any (h : OwnM w B (.slice (some ⟨g, 0, none⟩) n c) l) (hn : l.length = n) (hR : RightM next (l.map (·.1))) (nd : Nd) (hx : ndOf (l.map (·.1)) id = some nd) (hin : nd.par ≠ 0 → ∃ x, ndOf (l.map (·.1)) nd.par = some x ∧ id ∈ x.kids) :
    Calls Try.prog 20 #[.agg #[.int .i64 next, .slice (some ⟨g, 0, none⟩) n c], .int .i64 id] w (PutPost w B g n c (takeL (l.map (·.1)) id)) := by
  have hn4 : n ≤ 4096 := by have := hR.len; rw [List.length_map] at this; omega
  obtain ⟨i, hix, hi, hie⟩ := ndOf_some hx
  rw [List.getElem?_map] at hi
  cases hp : l[i]? with
  | none => rw [hp] at hi; cases hi
  | some p =>
    rw [hp] at hi
    obtain rfl : p.1 = nd := by simpa using hi
    have hpv : parV (l.map (·.1)) id = p.1.par := by unfold parV; rw [hx]
    by_cases h0 : p.1.par = 0
    · rw [takeL_root hR.rise (by rw [hpv]; exact h0)]
      exact takeRoot_any w B next id g n c l h hn hn4 hR.rise i p hp hie h0
    · obtain ⟨x, hx1, hx2⟩ := hin h0
      obtain ⟨j, hjx, hj, hje⟩ := ndOf_some hx1
      have hj' := hj
      rw [List.getElem?_map] at hj
      cases hq : l[j]? with
      | none => rw [hq] at hj; cases hj
      | some q =>
        rw [hq] at hj
        obtain rfl : q.1 = x := by simpa using hj
        rw [takeL_below hR.rise hj' (by rw [hpv]; exact hje)]
        exact takeBelow_any w B next id g n c l h hn hn4 hR.rise i p hp hie h0 j q.1 q.2 hq hje (hR.kOk (List.mem_of_getElem? hj')).kl (List.length_pos_of_mem hx2)
theorem refTake_any (h : OwnM w B (.slice (some ⟨g, 0, none⟩) n c) l) (hn : l.length = n) (hR : RightM next (l.map (·.1))) (nd : Nd) (hx : ndOf (l.map (·.1)) id = some nd) (hin : nd.par ≠ 0 → ∃ x, ndOf (l.map (·.1)) nd.par = some x ∧ id ∈ x.kids) :
    Calls Try.prog 31 #[.agg #[.int .i64 next, .slice (some ⟨g, 0, none⟩) n c], .int .i64 id] w (PutPost w B g n c (takeL (l.map (·.1)) id)) := by
  have hn4 : n ≤ 4096 := by have := hR.len; rw [List.length_map] at this; omega
  obtain ⟨i, hix, hi, hie⟩ := ndOf_some hx
  rw [List.getElem?_map] at hi
  cases hp : l[i]? with
  | none => rw [hp] at hi; cases hi
  | some p =>
    rw [hp] at hi
    obtain rfl : p.1 = nd := by simpa using hi
    have hpv : parV (l.map (·.1)) id = p.1.par := by unfold parV; rw [hx]
    by_cases h0 : p.1.par = 0
    · rw [takeL_root hR.rise (by rw [hpv]; exact h0)]
      exact refTakeRoot_any w B next id g n c l h hn hn4 hR.rise i p hp hie h0
    · obtain ⟨x, hx1, hx2⟩ := hin h0
      obtain ⟨j, hjx, hj, hje⟩ := ndOf_some hx1
      have hj' := hj
      rw [List.getElem?_map] at hj
      cases hq : l[j]? with
      | none => rw [hq] at hj; cases hj
      | some q =>
        rw [hq] at hj
        obtain rfl : q.1 = x := by simpa using hj
        rw [takeL_below hR.rise hj' (by rw [hpv]; exact hje)]
        exact refTakeBelow_any w B next id g n c l h hn hn4 hR.rise i p hp hie h0 j q.1 q.2 hq hje (hR.kOk (List.mem_of_getElem? hj')).kl
end
end Go.Proofs.Ytfljndlmafcjeaa
namespace Go.Proofs.Ytfljndlmafcjeaa
open Go Go.RowKit Go.Sort
set_option linter.unusedVariables false
attribute [local go_sem ↓] Go.wp_at_zero Go.wp_at_succ
/-- the box of a model, and two lists of numbers that grow -/
structure DW (w : World) (next : Int) (A : Option Addr) (n c : Nat) (ov : Value) (out : List Int) (sv : Value) (st : List Int) (X : World) : Prop where
  m : M1 w next A n c X
  o : X.ownsRow w.heap.size 3 1 ov out.length (intCells out)
  s : X.ownsRow w.heap.size 3 1 sv st.length (intCells st)
  ne : ov.ownBlock = none ∨ ov.ownBlock ≠ sv.ownBlock
section
variable {w X X' : World} {next : Int} {A : Option Addr} {n c : Nat} {ov sv : Value} {out st : List Int}
theorem own_lt {B size n : Nat} {e : TypeId} {v : Value} {xs : List Value} (h : X.ownsRow B e size v n xs) {g : Nat} (hg : v.ownBlock = some g) : g < X.heap.size := by
  rcases h.2 with ⟨rfl, _⟩ | ⟨g', cap, cur, rfl, _, hh, _⟩
  · simp [Value.ownBlock] at hg
  · have : g' = g := by simpa [Value.ownBlock] using hg
    subst this
    exact (Array.getElem?_eq_some_iff.1 hh).1
theorem DW.after (h : DW w next A n c ov out sv st X) (hb : Below X.heap.size X X') : DW w next A n c ov out sv st X' := ⟨h.m.after hb, own_after h.o hb, own_after h.s hb, h.ne⟩
theorem DW.pushO {x : Int} {v' : Value} (h : DW w next A n c ov out sv st X) (hg : X.grownBy X' ov.ownBlock) (hown : X'.ownsRow w.heap.size 3 1 v' (out.length + 1) (intCells out ++ [.int .i64 x])) (hb : v'.ownBlock = ov.ownBlock ∨ v'.ownBlock = some X.heap.size) :
    DW w next A n c v' (out ++ [x]) sv st X' := by
  refine ⟨⟨h.m.a.grown hg (Ne.symm (own_blk_ne h.o h.m.a (by decide))), below_grows h.m.bel hg h.o (Nat.le_refl _)⟩, ?_, h.s.kept hg ?_, ?_⟩
  · rw [List.length_append, List.length_singleton, show intCells (out ++ [x]) = intCells out ++ [.int .i64 x] from by simp [intCells]]
    exact hown
  · cases hs : sv.ownBlock with
    | none => exact .inl rfl
    | some g =>
      right
      intro e
      rcases h.ne with h1 | h1
      · rw [h1] at e; cases e
      · exact h1 (by rw [hs]; exact e.symm)
  · rcases hb with hb | hb
    · rw [hb]; exact h.ne
    · right
      rw [hb]
      intro e
      have := own_lt h.s e.symm
      omega
theorem DW.pushS {x : Int} {v' : Value} (h : DW w next A n c ov out sv st X) (hg : X.grownBy X' sv.ownBlock) (hown : X'.ownsRow w.heap.size 3 1 v' (st.length + 1) (intCells st ++ [.int .i64 x])) (hb : v'.ownBlock = sv.ownBlock ∨ v'.ownBlock = some X.heap.size) :
    DW w next A n c ov out v' (st ++ [x]) X' := by
  refine ⟨⟨h.m.a.grown hg (Ne.symm (own_blk_ne h.s h.m.a (by decide))), below_grows h.m.bel hg h.s (Nat.le_refl _)⟩, h.o.kept hg h.ne, ?_, ?_⟩
  · rw [List.length_append, List.length_singleton, show intCells (st ++ [x]) = intCells st ++ [.int .i64 x] from by simp [intCells]]
    exact hown
  · rcases hb with hb | hb
    · rw [hb]; exact h.ne
    · cases ho : ov.ownBlock with
      | none => exact .inl rfl
      | some g =>
        right
        rw [hb]
        intro e
        have := own_lt h.o (ho.trans e)
        omega
theorem DW.pop {x : Int} {As : Option Addr} {cs : Nat} (h : DW w next A n c ov out (.slice As (st.length + 1) cs) (st ++ [x]) X) (hA : As ≠ none) : DW w next A n c ov out (.slice As st.length cs) st X := by
  have h1 := h.s
  rw [List.length_append, List.length_singleton] at h1
  have h2 := own_take h1 (Nat.le_succ _) hA
  refine ⟨h.m, h.o, ?_, ?_⟩
  · have e : (intCells (st ++ [x])).take (st.length * 1) = intCells st := by
      rw [show intCells (st ++ [x]) = intCells st ++ [.int .i64 x] from by simp [intCells], Nat.mul_one, List.take_left' (intCells_length st)]
    rw [e] at h2
    exact h2
  · obtain ⟨a, rfl⟩ : ∃ a, As = some a := by cases As with | none => exact absurd rfl hA | some a => exact ⟨a, rfl⟩
    exact h.ne
theorem flat_len (nds : List Nd) (l : List Int) : l.length ≤ (l.flatMap (preI nds)).length := by
  induction l with
  | nil => simp
  | cons x r ih =>
    obtain ⟨q, hq⟩ := preI_cons nds x
    rw [List.flatMap_cons, List.length_append, hq, List.length_cons, List.length_cons]
    omega
theorem dw_start (w : World) (next : Int) (A : Option Addr) (n c : Nat) (id : Int) :
    DW w next A n c (.slice none 0 0) [] (.slice (some ⟨w.heap.size + 1, 0, none⟩) 1 1) [id] ((w.alloc (.cells #[.int .i64 next, .slice A n c] 24)).alloc (.cells #[.int .i64 id] 3)) := by
  refine ⟨⟨(Blk.new _ _ _).alloc _, below_more (below_more (Below.refl _ _) _) _⟩, ⟨rfl, .inl ⟨rfl, rfl⟩⟩, ⟨rfl, .inr ⟨w.heap.size + 1, 1, #[.int .i64 id], rfl, by omega, Blk.new' (by simp), Nat.le_refl _, by unfold maxLen; omega, rfl, rfl⟩⟩, .inl rfl⟩
end
set_option maxRecDepth 20000 in
set_option maxHeartbeats 6400000 in
theorem refDown_any (w : World) (hi : Nat) (next id : Int) (A : Option Addr) (n c : Nat) (nds : List Nd) (h : NodesIn w 0 hi A n c nds) (hh : hi ≤ w.heap.size) (hR : RightM next nds) (nd0 : Nd) (hnd0 : ndOf nds id = some nd0) :
    Calls Try.prog 28 #[.agg #[.int .i64 next, .slice A n c], .int .i64 id] w (ListR w (belowV nds id)) := by
  have hc := h.2.2.1
  have hnc := h.2.1
  have HL := Lib.hid h.1
  have hn4 : n ≤ 4096 := by rw [← h.1]; exact hR.len
  unfold maxLen at hc
  obtain ⟨i0, hi0, hz0, hz1, hz2⟩ := info_parts intInfo
  have hPl := preI_len hR hnd0
  rw [HL.out] at hPl
  have HPM : Hid (∀ y ∈ preI nds id, ∃ nd', ndOf nds y = some nd') := Lib.hid fun y hy => preI_mem hR hnd0 hy
  have HPF : Hid ((preI nds id).filter (fun y => y != id) = belowV nds id) := Lib.hid (by rw [preI_rest hR hnd0]; unfold belowV; rw [kidsV_of hnd0])
  have HPS : Hid ([] ++ [id].reverse.flatMap (preI nds) = preI nds id) := Lib.hid (by simp)
  generalize preI nds id = P at hPl HPM HPF HPS
  have HW0 := Lib.hid (dw_start w next A n c id)
  have HAts : Hid (∀ wr, Below w.heap.size w wr → ∀ y j, ixOf nds y = some j → ∀ d os, Calls Try.prog 26 #[.agg #[.int .i64 next, .slice A n c], .int .i64 y] (grow (redrawn wr d) os) (Ret (grow (redrawn wr d) os) (.int .i64 j))) := Lib.hid fun wr hbr y j hy d os => by
    have hz := hbr.trans ((below_regrown wr d os).mono hbr.size)
    have := refAt_any _ hi next y _ n c nds (h.below (hz.mono hh)) (Nat.le_trans hh hz.size) hR.rise hn4
    rw [show atV nds y = j from by unfold atV; rw [hy]] at this
    exact this
  go_enter Try.func28, Try.ntmps28
  go_wp2_with fail
  go_loopg [5, 6] P.length (fun gk ov sv wr => ∃ (dn st : List Int), Hid (gk = P.length - dn.length) ∧ DW w next A n c ov (dn.filter (fun y => y != id)) sv st wr ∧ Hid (dn ++ st.reverse.flatMap (preI nds) = P))
  case atStart => exact ⟨[], [id], Lib.hid (by simp), HW0.out, HPS⟩
  case round =>
    clear HW0 HPS
    obtain ⟨dn, st, HG, W, HE⟩ := hrel
    rename World => wr
    have hst : dn.length + st.length ≤ 4096 := by
      have h1 := congrArg List.length HE.out
      rw [List.length_append] at h1
      have h2 := flat_len nds st.reverse
      rw [List.length_reverse] at h2
      omega
    obtain ⟨fo, hfo⟩ : ∃ fo, dn.filter (fun y => y != id) = fo := ⟨_, rfl⟩
    have hfl : fo.length ≤ dn.length := by rw [← hfo]; exact List.length_filter_le _ _
    rw [hfo] at W
    have HFO := Lib.hid hfo
    clear hfo
    rcases List.eq_nil_or_concat st with hs0 | ⟨st0, top, hs0⟩
    · subst hs0
      have hdn : dn = P := by have := HE.out; simpa using this
      have HX : Hid (fo = belowV nds id) := Lib.hid (by rw [← HFO.out, hdn]; exact HPF.out)
      obtain ⟨As, cs, rfl⟩ := own_form W.s
      obtain ⟨Ao, co, rfl⟩ := own_form W.o
      have HW := Lib.hid W
      clear h hdn W
      go_wp2_with fail
      go_ret
      rw [← HX.out]
      exact ⟨_, rfl, HW.out.o, HW.out.m.bel⟩
    · rw [List.concat_eq_append] at hs0
      subst hs0
      have hsl : st0.length ≤ 4095 := by rw [List.length_append, List.length_singleton] at hst; omega
      have htop : top ∈ P := by
        rw [← HE.out, List.reverse_append, List.reverse_singleton, List.flatMap_append]
        obtain ⟨q, hq⟩ := preI_cons nds top
        simp [hq]
      obtain ⟨nd, hnd⟩ := HPM.out top htop
      obtain ⟨As, cs, hsv⟩ := own_form W.s
      rw [List.length_append, List.length_singleton] at hsv
      subst hsv
      have hws := W.s
      rw [List.length_append, List.length_singleton] at hws
      have hrow := own_row hws
      obtain ⟨bs, os, hAs, _, hbs, hcs⟩ := hrow.2.2.2 (by simp)
      subst hAs
      have htc := hcs st0.length (.int .i64 top) (by simp [intCells])
      have hck := hrow.2.1
      have hck2 := hrow.2.2.1
      clear hws
      unfold maxLen at hck2
      have HW := Lib.hid (W.pop (by simp))
      obtain ⟨i, hix, hgi, hie⟩ := ndOf_some hnd
      have hin := ixOf_lt hix
      rw [HL.out] at hin
      obtain ⟨b, o, hA, _, hb, V, hV⟩ := h.all (by omega)
      have hat := (hV i nd hgi).1.c5
      have hlf := (hV i nd hgi).2
      generalize V i = L at hat hlf
      obtain ⟨_, ⟨Ak, nk, ck⟩, _⟩ := L
      have hkn : nk = nd.kids.length := hlf.kn
      have hkrow := hlf.k
      simp only at hat hkrow
      have hnk := hkrow.2.1
      have hckk := hkrow.2.2.1
      unfold maxLen at hckk
      subst hA
      have HAT : Hid (∀ X, Below w.heap.size w X → X.cell? ⟨b, o + i * 7 + 5, none⟩ = some (.slice Ak nk ck)) := Lib.hid fun X hX => (hX.cell (p := ⟨b, _, none⟩) (Nat.lt_of_lt_of_le hb hh)).trans hat
      have HAt : Hid (∀ wr, Below w.heap.size w wr → ∀ d os, Calls Try.prog 26 #[.agg #[.int .i64 next, .slice (some ⟨b, o, none⟩) n c], .int .i64 top] (grow (redrawn wr d) os) (Ret (grow (redrawn wr d) os) (.int .i64 i))) := Lib.hid fun wr hw => HAts.out wr hw top i hix
      have HKR := Lib.hid hkrow
      have HKN := Lib.hid hkn
      have HPN : Hid (dn ++ [top] ++ (st0 ++ nd.kids.reverse).reverse.flatMap (preI nds) = P) := Lib.hid (by
        rw [← HE.out, List.reverse_append, List.reverse_reverse, List.reverse_append, List.reverse_singleton, List.flatMap_append, List.flatMap_append]
        simp [preI_eq hR hnd])
      have hkl4 : nk + st0.length ≤ 4096 := by
        have h1 := congrArg List.length HPN.out
        rw [List.length_append] at h1
        have h2 := flat_len nds (st0 ++ nd.kids.reverse).reverse
        rw [List.length_reverse, List.length_append, List.length_reverse] at h2
        have := HKN.out
        omega
      have hdl : dn.length < P.length := by
        have h1 := congrArg List.length HPN.out
        rw [List.length_append, List.length_append, List.length_singleton] at h1
        omega
      clear hst htop hnd hrow hcs hix hgi hie hat hlf hkn hkrow hV W HAts HE hbs
      cases d1 : (top != id) with
      | false =>
        have HFN : Hid ((dn ++ [top]).filter (fun y => y != id) = fo) := Lib.hid (by rw [List.filter_append, HFO.out, List.filter_cons_of_neg (by simp [d1]), List.filter_nil, List.append_nil])
        obtain ⟨Ao, co, hov⟩ := own_form HW.out.o
        subst hov
        have HW7 := HW
        go_upto_region 8 with (fail)
        have a0 := (HW7.out.m.a.cell 0).trans (show _ = some (.int .i64 next) from rfl)
        have q0 := cell_regrown ((HW7.out.m.a.cell 0).trans (show _ = some (.int .i64 next) from rfl))
        have q1 := cell_regrown ((HW7.out.m.a.cell 1).trans (show _ = some (.slice (some ⟨b, o, none⟩) n c) from rfl))
        have q2 := cell_regrown (HAT.out _ HW7.out.m.bel)
        clear a0
        refine wp_region_quiet_below (by kernel_rfl) (by kernel_rfl) ?_
        repeat (go_big_quiet_step ((go_at_call 26; exact regrown_ret (HAt.out _ HW7.out.m.bel _ _))))
        refine wpQuiet_nil ?_
        intro _ hw'
        obtain ⟨⟨dq, osq⟩, hw''⟩ := hw'
        subst hw''
        have HW8 := Lib.hid (HW7.out.after (below_regrown _ dq osq))
        generalize grow (redrawn _ dq) osq = w8 at HW8 ⊢
        clear q0 q1 q2
        go_wp2_with fail
        obtain ⟨wo, hwo⟩ : ∃ wo : World, wo = wr := ⟨_, rfl⟩
        clear hwo
        go_loopw [6, 9] (fun sv v9 wx => ∃ (m : Nat), m ≤ nk ∧ v9 = .int .i64 ((m : Int) - 1) ∧ DW w next (some ⟨b, o, none⟩) n c (.slice Ao fo.length co) fo sv (st0 ++ (nd.kids.drop m).reverse) wx) (fun _ v _ => (intOf v + 1).toNat)
        case atStart => exact ⟨nk, Nat.le_refl _, rfl, by rw [List.drop_of_length_le (by have := HKN.out; omega), List.reverse_nil, List.append_nil]; exact HW8.out⟩
        case round =>
          clear HW8 HW7 HW
          obtain ⟨m, hm, hv9, W9⟩ := hrel
          rename World => wx
          cases m with
          | zero =>
            have hv8 : u9 = Value.int .i64 (-1) := hv9
            clear hv9
            subst hv8
            rw [List.drop_zero] at W9
            obtain ⟨A9, c9, hs9⟩ := own_form W9.s
            subst hs9
            have HW9 := Lib.hid W9
            clear W9
            go_wp2_with fail
            go_roundg (P.length - (dn.length + 1))
            case measure => have := HG.out; omega
            case rel => exact ⟨dn ++ [top], st0 ++ nd.kids.reverse, Lib.hid (by rw [List.length_append, List.length_singleton]), by rw [HFN.out]; exact HW9.out, HPN⟩
          | succ m =>
            have hv8 : u9 = Value.int .i64 m := by rw [hv9]; congr 1; omega
            clear hv9
            subst hv8
            obtain ⟨kid, hkid⟩ : ∃ kid, nd.kids[m]? = some kid := ⟨nd.kids[m]'(by have := HKN.out; omega), List.getElem?_eq_getElem _⟩
            obtain ⟨bk, ok, hAk, _, hbk, hcells⟩ := HKR.out.at_ (by omega)
            subst hAk
            have hkc := (W9.m.bel.cell (p := ⟨bk, _, none⟩) (Nat.lt_of_lt_of_le hbk hh)).trans (hcells m _ (intCells_get hkid))
            have hdr : st0 ++ (nd.kids.drop m).reverse = st0 ++ (nd.kids.drop (m + 1)).reverse ++ [kid] := by
              obtain ⟨hl', rfl⟩ := List.getElem?_eq_some_iff.1 hkid
              rw [List.drop_eq_getElem_cons hl', List.reverse_cons, List.append_assoc]
            have HDR := Lib.hid hdr
            have hsl9 : (st0 ++ (nd.kids.drop (m + 1)).reverse).length ≤ 4096 := by rw [List.length_append, List.length_reverse, List.length_drop]; have := HKN.out; omega
            obtain ⟨sx, hsx⟩ : ∃ sx, st0 ++ (nd.kids.drop (m + 1)).reverse = sx := ⟨_, rfl⟩
            rw [hsx] at W9 HDR hsl9
            have HW9 := Lib.hid W9
            clear hkid hcells hdr hsx W9
            go_wp2_with (at_builtin; go_must (refine wpList_app _ rfl (.tmp 48) (.tmp 53) _ rfl w.heap.size 3 i0 _ 1 8 Try.underlying41 hi0 hz0 hz1 hz2 rfl (by omega) u6 sx.length (intCells sx) rfl (own_after HW9.out.s (below_more (Below.refl _ _) _)) wx.heap.size (wx.heap.size + 1) (some ⟨wx.heap.size, 0, none⟩) 1 1 [.int .i64 kid] rfl (row_blk (n := 1) (Blk.new' rfl) rfl (Nat.le_refl _) (by unfold maxLen; omega)) (by simp [Value.oneCell']) (by unfold maxLen; omega) (by omega) (Nat.le_trans HW9.out.m.bel.size (by simp)) ?_); go_must (intro v7 w7 hown7 hg7 hn7; obtain ⟨G7, cap7, rfl, hca7, hcb7⟩ := own_slice hown7; have HWx := Lib.hid ((HW9.out.after (below_more (Below.refl _ _) _)).pushS hg7 hown7 hn7); clear hown7 hg7 hn7))
            go_roundw
            case measure => simp only [intOf]; omega
            case rel => exact ⟨m, by omega, by simp, by rw [HDR.out]; exact HWx.out⟩
      | true =>
        have HFN : Hid ((dn ++ [top]).filter (fun y => y != id) = fo ++ [top]) := Lib.hid (by rw [List.filter_append, HFO.out, List.filter_cons_of_pos (by simp [d1]), List.filter_nil])
        go_upto_region 8 with (at_builtin; go_must (refine wpList_app _ rfl (.tmp 29) (.tmp 31) _ rfl w.heap.size 3 i0 _ 1 8 Try.underlying41 hi0 hz0 hz1 hz2 rfl (by omega) u5 fo.length (intCells fo) rfl (own_after HW.out.o (below_more (Below.refl _ _) _)) wr.heap.size (wr.heap.size + 1) (some ⟨wr.heap.size, 0, none⟩) 1 1 [.int .i64 top] rfl (row_blk (n := 1) (Blk.new' rfl) rfl (Nat.le_refl _) (by unfold maxLen; omega)) (by simp [Value.oneCell']) (by unfold maxLen; omega) (by omega) (Nat.le_trans HW.out.m.bel.size (by simp)) ?_); go_must (intro vo w7 hown7 hg7 hn7; obtain ⟨G7, cap7, rfl, hca7, hcb7⟩ := own_slice hown7; have HW7 := Lib.hid ((HW.out.after (below_more (Below.refl _ _) _)).pushO hg7 hown7 hn7); clear hown7 hg7 hn7))
        have a0 := (HW7.out.m.a.cell 0).trans (show _ = some (.int .i64 next) from rfl)
        have q0 := cell_regrown ((HW7.out.m.a.cell 0).trans (show _ = some (.int .i64 next) from rfl))
        have q1 := cell_regrown ((HW7.out.m.a.cell 1).trans (show _ = some (.slice (some ⟨b, o, none⟩) n c) from rfl))
        have q2 := cell_regrown (HAT.out _ HW7.out.m.bel)
        clear a0
        refine wp_region_quiet_below (by kernel_rfl) (by kernel_rfl) ?_
        repeat (go_big_quiet_step ((go_at_call 26; exact regrown_ret (HAt.out _ HW7.out.m.bel _ _))))
        refine wpQuiet_nil ?_
        intro _ hw'
        obtain ⟨⟨dq, osq⟩, hw''⟩ := hw'
        subst hw''
        have HW8 := Lib.hid (HW7.out.after (below_regrown _ dq osq))
        generalize grow (redrawn _ dq) osq = w8 at HW8 ⊢
        clear q0 q1 q2
        go_wp2_with fail
        obtain ⟨wo, hwo⟩ : ∃ wo : World, wo = wr := ⟨_, rfl⟩
        clear hwo
        go_loopw [6, 9] (fun sv v9 wx => ∃ (m : Nat), m ≤ nk ∧ v9 = .int .i64 ((m : Int) - 1) ∧ DW w next (some ⟨b, o, none⟩) n c (.slice (some ⟨G7, 0, none⟩) (fo.length + 1) cap7) (fo ++ [top]) sv (st0 ++ (nd.kids.drop m).reverse) wx) (fun _ v _ => (intOf v + 1).toNat)
        case atStart => exact ⟨nk, Nat.le_refl _, rfl, by rw [List.drop_of_length_le (by have := HKN.out; omega), List.reverse_nil, List.append_nil]; exact HW8.out⟩
        case round =>
          clear HW8 HW7 HW
          obtain ⟨m, hm, hv9, W9⟩ := hrel
          rename World => wx
          cases m with
          | zero =>
            have hv8 : u9 = Value.int .i64 (-1) := hv9
            clear hv9
            subst hv8
            rw [List.drop_zero] at W9
            obtain ⟨A9, c9, hs9⟩ := own_form W9.s
            subst hs9
            have HW9 := Lib.hid W9
            clear W9
            go_wp2_with fail
            go_roundg (P.length - (dn.length + 1))
            case measure => have := HG.out; omega
            case rel => exact ⟨dn ++ [top], st0 ++ nd.kids.reverse, Lib.hid (by rw [List.length_append, List.length_singleton]), by rw [HFN.out]; exact HW9.out, HPN⟩
          | succ m =>
            have hv8 : u9 = Value.int .i64 m := by rw [hv9]; congr 1; omega
            clear hv9
            subst hv8
            obtain ⟨kid, hkid⟩ : ∃ kid, nd.kids[m]? = some kid := ⟨nd.kids[m]'(by have := HKN.out; omega), List.getElem?_eq_getElem _⟩
            obtain ⟨bk, ok, hAk, _, hbk, hcells⟩ := HKR.out.at_ (by omega)
            subst hAk
            have hkc := (W9.m.bel.cell (p := ⟨bk, _, none⟩) (Nat.lt_of_lt_of_le hbk hh)).trans (hcells m _ (intCells_get hkid))
            have hdr : st0 ++ (nd.kids.drop m).reverse = st0 ++ (nd.kids.drop (m + 1)).reverse ++ [kid] := by
              obtain ⟨hl', rfl⟩ := List.getElem?_eq_some_iff.1 hkid
              rw [List.drop_eq_getElem_cons hl', List.reverse_cons, List.append_assoc]
            have HDR := Lib.hid hdr
            have hsl9 : (st0 ++ (nd.kids.drop (m + 1)).reverse).length ≤ 4096 := by rw [List.length_append, List.length_reverse, List.length_drop]; have := HKN.out; omega
            obtain ⟨sx, hsx⟩ : ∃ sx, st0 ++ (nd.kids.drop (m + 1)).reverse = sx := ⟨_, rfl⟩
            rw [hsx] at W9 HDR hsl9
            have HW9 := Lib.hid W9
            clear hkid hcells hdr hsx W9
            go_wp2_with (at_builtin; go_must (refine wpList_app _ rfl (.tmp 48) (.tmp 53) _ rfl w.heap.size 3 i0 _ 1 8 Try.underlying41 hi0 hz0 hz1 hz2 rfl (by omega) u6 sx.length (intCells sx) rfl (own_after HW9.out.s (below_more (Below.refl _ _) _)) wx.heap.size (wx.heap.size + 1) (some ⟨wx.heap.size, 0, none⟩) 1 1 [.int .i64 kid] rfl (row_blk (n := 1) (Blk.new' rfl) rfl (Nat.le_refl _) (by unfold maxLen; omega)) (by simp [Value.oneCell']) (by unfold maxLen; omega) (by omega) (Nat.le_trans HW9.out.m.bel.size (by simp)) ?_); go_must (intro v7 w7 hown7 hg7 hn7; obtain ⟨G7, cap7, rfl, hca7, hcb7⟩ := own_slice hown7; have HWx := Lib.hid ((HW9.out.after (below_more (Below.refl _ _) _)).pushS hg7 hown7 hn7); clear hown7 hg7 hn7))
            go_roundw
            case measure => simp only [intOf]; omega
            case rel => exact ⟨m, by omega, by simp, by rw [HDR.out]; exact HWx.out⟩
end Go.Proofs.Ytfljndlmafcjeaa
namespace Go.Proofs.Ytfljndlmafcjeaa
open Go Go.RowKit Go.Sort
set_option linter.unusedVariables false
attribute [local go_sem ↓] Go.wp_at_zero Go.wp_at_succ
theorem admits_lax (w : World) (hi : Nat) (next parent at_ : Int) (role : ByteArray) (L M : Nat) (A : Option Addr) (n c : Nat) (nds : List Nd) (h : NodesIn w 0 hi A n c nds) (hh : hi ≤ w.heap.size) (hr : LaxM next nds) (hL : L ≤ 65) (hM : M ≤ 8192) :
    Calls Try.prog 21 #[.agg #[.int .i64 parent, .string role, .int .i64 at_], .agg #[.int .i64 next, .slice A n c], .int .i64 L, .int .i64 M] w (Ret w (.tuple #[.int .i64 (admV next nds parent role at_ L M).1, .int .i64 (admV next nds parent role at_ L M).2])) := by
  have hn : n ≤ 4096 := by rw [← h.1]; exact hr.len
  by_cases h1 : parent ≠ 0 ∧ (ndOf nds parent).isNone = true
  · have e : admV next nds parent role at_ L M = (0, 20) := by unfold admV; rw [if_pos h1]
    rw [e]
    exact admits_none w hi next parent at_ role L M A n c nds h hh hr.rise hn (Option.isNone_iff_eq_none.1 h1.2) h1.1
  · have e : admV next nds parent role at_ L M = (if (amV nds parent role at_).2 = false then (0, 22) else if 64 < depthV nds parent + L then (0, 23) else if 4096 < n + M then (0, 4) else if 1048576 < next - 1 + M then (0, 4) else ((amV nds parent role at_).1, 0)) := by
      unfold admV; rw [if_neg h1, h.1]
    have hDep : DepthIs nds parent (depthV nds parent) ∧ depthV nds parent ≤ 64 := by
      by_cases h0 : parent = 0
      · subst h0
        exact ⟨depth_root.1, by rw [depth_root.2]; omega⟩
      · cases hx : ndOf nds parent with
        | none => exact absurd ⟨h0, by rw [hx]; rfl⟩ h1
        | some nd => exact ⟨(hr.dep _ _ hx).1, (hr.dep _ _ hx).2.2⟩
    refine admits_some w next parent at_ role L M (depthV nds parent) A n c h.2.2.1 hn hr.lo hr.hi hL hM hDep.2 (amV nds parent role at_).1 (amV nds parent role at_).2 ?_ ?_ ?_ _ e.symm
    · refine Lib.hid fun X hX => ?_
      have h2 := has_any X hi next parent A n c nds (h.below (hX.mono hh)) (Nat.le_trans hh hX.size) hr.rise hn
      rw [has_ndOf] at h2
      have e2 : (parent != 0) = (ndOf nds parent).isSome := by
        by_cases h0 : parent = 0
        · subst h0
          have : ndOf nds 0 = none := by
            cases hx : ndOf nds 0 with
            | none => rfl
            | some nd =>
              obtain ⟨i, _, h3, h4⟩ := ndOf_some hx
              have := hr.rise.pos i nd h3
              omega
          rw [this]; rfl
        · cases hx : ndOf nds parent with
          | none => exact absurd ⟨h0, by rw [hx]; rfl⟩ h1
          | some nd => show (parent != 0) = true; rw [bne_iff_ne]; exact h0
      rw [e2]
      exact h2
    · refine Lib.hid fun X hX => ?_
      by_cases h0 : parent = 0
      · subst h0
        have e2 : amV nds 0 role at_ = (0, role.toList.isEmpty && at_ == 0) := by unfold amV; rw [if_pos rfl]
        rw [e2]
        exact among_root X next at_ role A n c _ rfl
      · cases hx : ndOf nds parent with
        | none => exact absurd ⟨h0, by rw [hx]; rfl⟩ h1
        | some nd =>
          obtain ⟨i, _, h3, _⟩ := ndOf_some hx
          have e2 : amV nds parent role at_ = amongF (inRoleB nds role) at_ 0 nd.kids.length 0 nd.kids := by unfold amV; rw [if_neg h0, hx]
          exact among_any X hi next parent at_ role A n c nds (h.below (hX.mono hh)) (Nat.le_trans hh hX.size) nd (hr.kok _ (List.mem_of_getElem? h3)) hx h0 _ e2.symm
    · exact Lib.hid fun X hX => depth_any X hi next parent A n c nds (h.below (hX.mono hh)) (Nat.le_trans hh hX.size) hr.rise hn _ hDep.1 (by omega)
/-- what the document's may tells of a branch of L levels at a spot -/
def mayV (nds : List Nd) (parent : Int) (role : ByteArray) (at_ : Int) (L : Nat) : Int :=
  if (amV nds parent role at_).2 = false then 22 else if 64 < depthV nds parent + L then 23 else 0
theorem may_lax (w : World) (hi : Nat) (next parent at_ : Int) (role : ByteArray) (L : Nat) (A : Option Addr) (n c : Nat) (nds : List Nd) (h : NodesIn w 0 hi A n c nds) (hh : hi ≤ w.heap.size) (hr : LaxM next nds) (hL : L ≤ 64) (hp : parent ≠ 0 → ∃ nd, ndOf nds parent = some nd) :
    Calls Try.prog 32 #[.agg #[.int .i64 next, .slice A n c], .int .i64 parent, .string role, .int .i64 at_, .int .i64 L] w (Ret w (.int .i64 (mayV nds parent role at_ L))) := by
  have hn : n ≤ 4096 := by rw [← h.1]; exact hr.len
  by_cases h0 : parent = 0
  · subst h0
    refine mayRoot_any w next at_ role L A n c _ ?_
    unfold mayV amV
    rw [if_pos rfl, depth_root.2]
    cases (role.toList.isEmpty && at_ == 0) with
    | true => rw [if_pos rfl, if_neg (by decide), if_neg (by omega)]
    | false => rw [if_neg (by decide), if_pos rfl]
  · obtain ⟨nd, hx⟩ := hp h0
    obtain ⟨i, _, h3, _⟩ := ndOf_some hx
    have hm := List.mem_of_getElem? h3
    have hd := hr.dep _ _ hx
    refine may_any w next parent at_ role L (depthV nds parent) A n c (by omega) hd.2.2 h0 (beforeV (inRoleB nds role) at_ nd.kids) ?_ ?_ _ ?_
    · exact Lib.hid fun X hX => refBefore_any X hi next parent at_ role A n c nds (h.below (hX.mono hh)) (Nat.le_trans hh hX.size) nd (hr.kok nd hm) hx _ rfl
    · exact Lib.hid fun X hX => refDepth_any X hi next parent A n c nds (h.below (hX.mono hh)) (Nat.le_trans hh hX.size) hr.rise hn _ hd.1 (by omega)
    · unfold mayV amV
      rw [if_neg h0, hx]
      have hb := (among_before (f := inRoleB nds role) (at_ := at_) (hr.nodup nd hm)).1
      show _ = (if (amongF (inRoleB nds role) at_ 0 nd.kids.length 0 nd.kids).2 = false then (22 : Int) else _)
      rw [hb]
      rcases before_range (inRoleB nds role) at_ nd.kids with h1 | ⟨a, h1, _⟩
      · rw [h1, if_pos (by decide), if_pos (by decide)]
      · have hd' : decide ((a : Int) ≠ -1) = true := by rw [decide_eq_true_eq]; omega
        rw [h1, hd', if_neg (show ¬ (a : Int) < 0 by omega), if_neg (show ¬ true = false by decide)]
theorem hi_below {next : Int} {nds : List Nd} (hR : RightM next nds) {x : Int} {nd : Nd} (hx : ndOf nds x = some nd) : (belowV nds x).foldl (fun a y => max a (depthV nds y - depthV nds x + 1)) 1 = hiV nds x := by
  unfold hiV belowV
  rw [preI_eq hR hx, kidsV_of hx, List.foldl_cons]
  congr 1
  omega
theorem below_up {next : Int} {nds : List Nd} (hR : RightM next nds) {x y : Int} {nd : Nd} (hx : ndOf nds x = some nd) (hy : y ∈ belowV nds x) : (∃ nd', ndOf nds y = some nd') ∧ depthV nds x ≤ depthV nds y := by
  have h1 := below_pre hR hx
  have hk := AtD.kids hR (x := x) ⟨⟨nd, hx⟩, rfl⟩
  rw [kidsV_of hx] at hk
  rw [← h1] at hy
  obtain ⟨q, hq, rfl⟩ := List.mem_map.1 hy
  obtain ⟨h2, h3, h4, _⟩ := pre_mem hR _ _ _ _ hk q hq
  exact ⟨h2, by omega⟩
set_option maxRecDepth 20000 in
set_option maxHeartbeats 3200000 in
theorem refHigh_any (w : World) (hi : Nat) (next id : Int) (A : Option Addr) (n c : Nat) (nds : List Nd) (h : NodesIn w 0 hi A n c nds) (hh : hi ≤ w.heap.size) (hR : RightM next nds) (nd : Nd) (hx : ndOf nds id = some nd) :
    Calls Try.prog 29 #[.agg #[.int .i64 next, .slice A n c], .int .i64 id] w (Ret w (.int .i64 (hiV nds id))) := by
  have hn4 : n ≤ 4096 := by rw [← h.1]; exact hR.len
  have HM0 := Lib.hid (M1.start w next A n c)
  have HDo := Lib.hid (refDown_any _ hi next id A n c nds (h.below (HM0.out.bel.mono hh)) (Nat.le_trans hh HM0.out.bel.size) hR nd hx)
  have HDe : Hid (∀ X, Below w.heap.size w X → ∀ z nd', ndOf nds z = some nd' → Calls Try.prog 58 #[.agg #[.int .i64 next, .slice A n c], .int .i64 z] X (Ret X (.int .i64 (depthV nds z)))) := Lib.hid fun X hX z nd' hz =>
    refDepth_any X hi next z A n c nds (h.below (hX.mono hh)) (Nat.le_trans hh hX.size) hR.rise hn4 _ (hR.depth hz).1 (by have := (hR.depth hz).2.2; omega)
  have HBU : Hid (∀ y ∈ belowV nds id, (∃ nd', ndOf nds y = some nd') ∧ depthV nds id ≤ depthV nds y ∧ depthV nds y ≤ 64) := Lib.hid fun y hy => by
    obtain ⟨⟨nd', h1⟩, h2⟩ := below_up hR hx hy
    exact ⟨⟨nd', h1⟩, h2, (hR.depth h1).2.2⟩
  have hll := below_len hR hx
  have hll4 : (belowV nds id).length ≤ 4096 := Nat.le_trans hll hR.len
  rw [← hi_below hR hx]
  have HX0 := Lib.hid hx
  clear hll h hR hx
  obtain ⟨lb, hlb⟩ : ∃ lb, belowV nds id = lb := ⟨_, rfl⟩
  rw [hlb] at HDo HBU hll4 ⊢
  clear hlb
  have HDx : Hid (∀ X, Below w.heap.size w X → Calls Try.prog 58 #[.agg #[.int .i64 next, .slice A n c], .int .i64 id] X (Ret X (.int .i64 (depthV nds id)))) := Lib.hid fun X hX => HDe.out X hX id nd HX0.out
  obtain ⟨dx, hdx⟩ : ∃ dx, depthV nds id = dx := ⟨_, rfl⟩
  rw [hdx] at HDx HBU ⊢
  go_enter Try.func29, Try.ntmps29
  have a0 := (HM0.out.a.cell 0).trans (show _ = some (.int .i64 next) from rfl)
  have a1 := (HM0.out.a.cell 1).trans (show _ = some (.slice A n c) from rfl)
  go_wp2_with (go_at_call 28; go_must (refine HDo.out.mono ?_; rintro e w2 ⟨lv, rfl, hlv, hb2⟩; obtain ⟨Al, cl, rfl⟩ := own_form hlv; clear a0 a1; have HD2 := Lib.hid (HM0.out.after hb2); have HO2 := Lib.hid (own_mono hlv HM0.out.bel.size); clear hlv hb2))
  go_loopw [5, 7] (fun v5 v7 wr => ∃ (k most : Nat), k ≤ lb.length ∧ Hid ((lb.take k).foldl (fun a y => max a (depthV nds y - dx + 1)) 1 = most) ∧ v5 = .int .i64 most ∧ v7 = .int .i64 k ∧ most ≤ 65 ∧ M1 w next A n c wr ∧ wr.ownsRow w.heap.size 3 1 (.slice Al lb.length cl) lb.length (intCells lb)) (fun _ v _ => lb.length - (intOf v).toNat)
  case atStart => exact ⟨0, 1, Nat.zero_le _, Lib.hid rfl, rfl, rfl, by omega, HD2.out, HO2.out⟩
  case round =>
    obtain ⟨k, most, hk, HF, rfl, rfl, hm65, W1, W2⟩ := hrel
    have HW := Lib.hid (And.intro W1 W2)
    clear W1 W2
    rename World => wr
    by_cases hlt : k < lb.length
    · obtain ⟨y, hy⟩ : ∃ y, lb[k]? = some y := ⟨lb[k], List.getElem?_eq_getElem _⟩
      obtain ⟨⟨nd', hz⟩, hle, hle2⟩ := HBU.out y (List.mem_of_getElem? hy)
      have HDy : Hid (∀ X, Below w.heap.size w X → Calls Try.prog 58 #[.agg #[.int .i64 next, .slice A n c], .int .i64 y] X (Ret X (.int .i64 (depthV nds y)))) := Lib.hid fun X hX => HDe.out X hX y nd' hz
      obtain ⟨dy, hdy⟩ : ∃ dy, depthV nds y = dy := ⟨_, rfl⟩
      rw [hdy] at HDy hle hle2
      obtain ⟨bl, ol, hAl, _, _, hcl⟩ := (own_row HW.out.2).2.2.2 (by omega)
      subst hAl
      have hlm := (own_row HW.out.2).2.2.1
      have hln := (own_row HW.out.2).2.1
      unfold maxLen at hlm
      have HY := Lib.hid hy
      have HSof : Hid (∀ X, (M1 w next A n c X ∧ X.ownsRow w.heap.size 3 1 (.slice (some ⟨bl, ol, none⟩) lb.length cl) lb.length (intCells lb)) → X.cell? ⟨w.heap.size, 0, none⟩ = some (.int .i64 next) ∧ X.cell? ⟨w.heap.size, 1, none⟩ = some (.slice A n c) ∧ X.cell? ⟨bl, ol + k, none⟩ = some (.int .i64 y)) := Lib.hid fun X hX => by
        obtain ⟨b', o', he, _, _, hc'⟩ := (own_row hX.2).2.2.2 (by omega)
        injection he with he
        injection he with e1 e2
        subst e1 e2
        exact ⟨(hX.1.a.cell 0).trans rfl, (hX.1.a.cell 1).trans rfl, hc' k _ (intCells_get HY.out)⟩
      have HX := Lib.hid (And.intro (HW.out.1.after (below_drew1 wr)) (own_after HW.out.2 (below_drew1 wr)))
      have hw1 : IntKind.i64.wrap ((dy : Int) - (dx : Int)) = (dy : Int) - (dx : Int) := IntWalk.i64_in _ ⟨by omega, by omega⟩
      have hw2 : IntKind.i64.wrap ((dy : Int) - (dx : Int) + 1) = (dy : Int) - (dx : Int) + 1 := IntWalk.i64_in _ ⟨by omega, by omega⟩
      have hmx : ((max most (dy - dx + 1) : Nat) : Int) = max (most : Int) ((dy : Int) - (dx : Int) + 1) := by omega
      clear hy hz hcl
      go_upto_region 6 with (fail)
      refine wp_region_held_tail 13 (fun w' => w'.cell? ⟨w.heap.size, 0, none⟩ = some (.int .i64 next) ∧ w'.cell? ⟨w.heap.size, 1, none⟩ = some (.slice A n c) ∧ w'.cell? ⟨bl, ol + k, none⟩ = some (.int .i64 y)) (by kernel_rfl) (by kernel_rfl) ?hSt (fun hHeld => ?qt0)
      case hSt => exact HSof.out _ HX.out
      case qt0 =>
        generalize wr.drew = wz at HX hHeld ⊢
        simp only [List.take_succ_cons, List.take_zero, List.drop_succ_cons, List.drop_zero]
        refine wpAnyH_take (i := 0) (v := (.int .i64 most)) rfl (by kernel_rfl) (by kernel_rfl) (by kernel_rfl) (fun _ _ _ h => h) (Or.inl ⟨by rfl, ?yt_1⟩) (by assumption) ?qt_1
        case yt_1 => (intro w hSw; (try dsimp only at hSw); go_simp)
        case qt_1 =>
          (try simp only [Act.put]); (try simp only [List.setIfInBounds_toArray])
          refine wpAnyH_take (i := 1) (v := (.agg #[.int .i64 next, .slice A n c])) rfl (by kernel_rfl) (by kernel_rfl) (by kernel_rfl) (fun _ _ _ h => h) (Or.inl ⟨by rfl, ?yt_2⟩) (by assumption) ?qt_2
          case yt_2 => (intro w hSw; (try dsimp only at hSw); go_simp)
          case qt_2 =>
            (try simp only [Act.put]); (try simp only [List.setIfInBounds_toArray])
            refine wpAnyH_take (i := 2) (v := (.slice (some ⟨bl, ol, none⟩) lb.length cl)) rfl (by kernel_rfl) (by kernel_rfl) (by kernel_rfl) (fun _ _ _ h => h) (Or.inl ⟨by rfl, ?yt_3⟩) (by assumption) ?qt_3
            case yt_3 => (intro w hSw; (try dsimp only at hSw); go_simp)
            case qt_3 =>
              (try simp only [Act.put]); (try simp only [List.setIfInBounds_toArray])
              refine wpAnyH_take (i := 3) (v := (.int .i64 k)) rfl (by kernel_rfl) (by kernel_rfl) (by kernel_rfl) (fun _ _ _ h => h) (Or.inl ⟨by rfl, ?yt_4⟩) (by assumption) ?qt_4
              case yt_4 => (intro w hSw; (try dsimp only at hSw); go_simp)
              case qt_4 =>
                (try simp only [Act.put]); (try simp only [List.setIfInBounds_toArray])
                refine wpAnyH_take (i := 4) (v := (.pointer (some ⟨bl, ol + k, none⟩))) rfl (by kernel_rfl) (by kernel_rfl) (by kernel_rfl) (fun _ _ _ h => h) (Or.inl ⟨by rfl, ?yt_5⟩) (by assumption) ?qt_5
                case yt_5 => (intro w hSw; (try dsimp only at hSw); go_simp)
                case qt_5 =>
                  (try simp only [Act.put]); (try simp only [List.setIfInBounds_toArray])
                  refine wpAnyH_take (i := 5) (v := (.int .i64 y)) rfl (by kernel_rfl) (by kernel_rfl) (by kernel_rfl) (fun _ _ _ h => h) (Or.inl ⟨by rfl, ?yt_6⟩) (by assumption) ?qt_6
                  case yt_6 => (intro w hSw; (try dsimp only at hSw); go_simp)
                  case qt_6 =>
                    (try simp only [Act.put]); (try simp only [List.setIfInBounds_toArray])
                    refine wpAnyH_take (i := 7) (v := (.agg #[.int .i64 next, .slice A n c])) rfl (by kernel_rfl) (by kernel_rfl) (by kernel_rfl) (fun _ _ _ h => h) (Or.inl ⟨by rfl, ?yt_7⟩) (by assumption) ?qt_7
                    case yt_7 => (intro w hSw; (try dsimp only at hSw); go_simp)
                    case qt_7 =>
                      (try simp only [Act.put]); (try simp only [List.setIfInBounds_toArray])
                      refine wpAnyH_take (i := 8) (v := (.int .i64 id)) rfl (by kernel_rfl) (by kernel_rfl) (by kernel_rfl) (fun _ _ _ h => h) (Or.inl ⟨by rfl, ?yt_8⟩) (by assumption) ?qt_8
                      case yt_8 => (intro w hSw; (try dsimp only at hSw); go_simp)
                      case qt_8 =>
                        (try simp only [Act.put]); (try simp only [List.setIfInBounds_toArray])
                        refine wpAnyH_ready (rs := [6]) (by kernel_rfl) (by simp) ?_
                        refine AllReadyH.cons rfl (fun K hK => ?st_9) ?mt_9
                        case st_9 =>
                          (refine step_call _ (by rfl) 58 #[.agg #[.int .i64 next, .slice A n c], .int .i64 y] (by go_simp) (HDy.out _ HX.out.1.bel) ?_; rintro e Yb ⟨rfl, hbb⟩; refine ⟨_, rfl, ?_⟩; replace HX : Hid (M1 w next A n c Yb ∧ Yb.ownsRow w.heap.size 3 1 (.slice (some ⟨bl, ol, none⟩) lb.length cl) lb.length (intCells lb)) := Lib.hid ⟨HX.out.1.after hbb, own_after HX.out.2 hbb⟩; clear hbb)
                          refine hK.out _ _ ?kt_9 (fun hHeld => ?qt_9)
                          case kt_9 => ((try dsimp only); exact HSof.out _ HX.out)
                          case qt_9 =>
                            clear hK K
                            (try simp only [Act.put]); (try simp only [List.setIfInBounds_toArray])
                            refine wpAnyH_ready (rs := [9]) (by kernel_rfl) (by simp) ?_
                            refine AllReadyH.cons rfl (fun K hK => ?st_10) ?mt_10
                            case st_10 =>
                              (refine step_call _ (by rfl) 58 #[.agg #[.int .i64 next, .slice A n c], .int .i64 id] (by go_simp) (HDx.out _ HX.out.1.bel) ?_; rintro e Yb ⟨rfl, hbb⟩; refine ⟨_, rfl, ?_⟩; replace HX : Hid (M1 w next A n c Yb ∧ Yb.ownsRow w.heap.size 3 1 (.slice (some ⟨bl, ol, none⟩) lb.length cl) lb.length (intCells lb)) := Lib.hid ⟨HX.out.1.after hbb, own_after HX.out.2 hbb⟩; clear hbb)
                              refine hK.out _ _ ?kt_10 (fun hHeld => ?qt_10)
                              case kt_10 => ((try dsimp only); exact HSof.out _ HX.out)
                              case qt_10 =>
                                clear hK K
                                (try simp only [Act.put]); (try simp only [List.setIfInBounds_toArray])
                                refine wpAnyH_take (i := 10) (v := (.int .i64 ((dy : Int) - (dx : Int)))) rfl (by kernel_rfl) (by kernel_rfl) (by kernel_rfl) (fun _ _ _ h => h) (Or.inl ⟨by rfl, ?yt_11⟩) (by assumption) ?qt_11
                                case yt_11 => (intro w hSw; (try dsimp only at hSw); go_simp)
                                case qt_11 =>
                                  (try simp only [Act.put]); (try simp only [List.setIfInBounds_toArray])
                                  refine wpAnyH_take (i := 11) (v := (.int .i64 ((dy : Int) - (dx : Int) + 1))) rfl (by kernel_rfl) (by kernel_rfl) (by kernel_rfl) (fun _ _ _ h => h) (Or.inl ⟨by rfl, ?yt_12⟩) (by assumption) ?qt_12
                                  case yt_12 => (intro w hSw; (try dsimp only at hSw); go_simp)
                                  case qt_12 =>
                                    (try simp only [Act.put]); (try simp only [List.setIfInBounds_toArray])
                                    refine wpAnyH_take (i := 12) (v := (.int .i64 (max (most : Int) ((dy : Int) - (dx : Int) + 1)))) rfl (by kernel_rfl) (by kernel_rfl) (by kernel_rfl) (fun _ _ _ h => h) (Or.inl ⟨by rfl, ?yt_13⟩) (by assumption) ?qt_13
                                    case yt_13 => (intro w hSw; (try dsimp only at hSw); go_simp)
                                    case qt_13 =>
                                      (try simp only [Act.put]); (try simp only [List.setIfInBounds_toArray])
                                      refine wpAnyH_done (by kernel_rfl) ?_ _
                                      show wpList _ _ _ _ _ _
                                      clear hHeld
                                      go_wp2_with fail
                                      go_roundw
                                      case rel =>
                                        refine ⟨k + 1, max most (dy - dx + 1), by omega, Lib.hid ?_, by rw [hmx], rfl, by omega, HX.out.1, HX.out.2⟩
                                        rw [List.take_add_one, HY.out, List.foldl_append, HF.out, ← hdy]; rfl
                                      case measure => simp [intOf]; omega
                            case mt_10 =>
                              exact AllReadyH.nil
                        case mt_9 =>
                          exact AllReadyH.nil
    · have hkn : k = lb.length := by omega
      have hfin : lb.foldl (fun a y => max a (depthV nds y - dx + 1)) 1 = most := by
        have := HF.out
        rw [hkn, List.take_of_length_le (Nat.le_refl _)] at this
        exact this
      have HFN := Lib.hid hfin
      clear hfin
      subst hkn
      go_wp2_with fail
      go_ret
      rw [HFN.out]
      exact ⟨rfl, HW.out.1.bel⟩
end Go.Proofs.Ytfljndlmafcjeaa
namespace Go.Proofs.Ytfljndlmafcjeaa
open Go Go.RowKit Go.Sort
set_option linter.unusedVariables false
attribute [local go_sem ↓] Go.wp_at_zero Go.wp_at_succ
set_option maxHeartbeats 800000 in
theorem index_int (w : World) (lo hi : Nat) (A : Option Addr) (n c : Nat) (l : List Int) (x : Int) (h : Row w lo hi 1 A n c (intCells l)) :
    Calls Try.prog 48 #[.slice A n c, .int .i64 x] w fun e w' => e = .returned (.int .i64 (idxV l x)) ∧ w = w' := by
  have hc := h.2.2.1
  have hnc := h.2.1
  have hl : l.length = n := by have := h.1; rw [intCells_length] at this; omega
  have HL := Lib.hid hl
  unfold maxLen at hc
  clear hl
  go_enter Try.func48, Try.ntmps48
  go_wp2_with fail
  go_loop [8] (fun i => ∃ k : Nat, k ≤ n ∧ i = .int .i64 k ∧ Hid (∀ (i : Nat) y, i < k → l[i]? = some y → y ≠ x)) (fun i => n - (intOf i).toNat)
  case atStart => exact ⟨0, by omega, rfl, Lib.hid (fun i y hi => absurd hi (by omega))⟩
  case round =>
    obtain ⟨k, hk, rfl, HK⟩ := hrel
    by_cases hlt : k < n
    · obtain ⟨b, o, rfl, _, hb, hcells⟩ := h.at_ (by omega)
      obtain ⟨y, hy⟩ : ∃ y, l[k]? = some y := ⟨l[k]'(by have := HL.out; omega), List.getElem?_eq_getElem _⟩
      have hck := hcells k _ (intCells_get hy)
      by_cases e : y = x
      · have d1 : (x == y) = true := by rw [beq_iff_eq]; exact e.symm
        have HX : Hid (idxV l x = k) := Lib.hid (idxV_at HK.out (by rw [hy, e]))
        clear e hy hcells
        go_wp2_with fail
        go_ret
        exact ⟨ret_int HX.out.symm, rfl⟩
      · have d1 : (x == y) = false := by rw [beq_eq_false_iff_ne]; exact fun h => e h.symm
        have HX : Hid (∀ (i : Nat) y, i < k + 1 → l[i]? = some y → y ≠ x) := Lib.hid (fun i z hi hz => by
          by_cases g : i = k
          · subst g; rw [hy] at hz; injection hz with hz; rw [← hz]; exact e
          · exact HK.out i z (by omega) hz)
        clear e hy hcells
        go_wp2_with fail
        go_round
        case rel => exact ⟨k + 1, by omega, by go_num, HX⟩
        case measure => simp [intOf]; omega
    · have HX : Hid (idxV l x = -1) := Lib.hid (idxV_no (fun i y hi => HK.out i y (by have := (List.getElem?_eq_some_iff.1 hi).1; have := HL.out; omega) hi))
      go_wp2_with fail
      go_ret
      exact ⟨ret_int HX.out.symm, rfl⟩
set_option maxHeartbeats 400000 in
theorem contains_int (w : World) (lo hi : Nat) (A : Option Addr) (n c : Nat) (l : List Int) (x : Int) (h : Row w lo hi 1 A n c (intCells l)) :
    Calls Try.prog 17 #[.slice A n c, .int .i64 x] w (Says w (l.contains x)) := by
  have HI := Lib.hid (index_int w lo hi A n c l x h)
  have HX := Lib.hid (idxV_ge l x)
  clear h
  go_enter Try.func17, Try.ntmps17
  go_wp2_with (go_at_call 48; refine HI.out.mono ?_; rintro e w' ⟨rfl, rfl⟩)
  go_ret
  exact ⟨ret_bool HX.out, rfl⟩
end Go.Proofs.Ytfljndlmafcjeaa
namespace Go.Proofs.Ytfljndlmafcjeaa
open Go Go.RowKit Go.Sort
set_option linter.unusedVariables false
attribute [local go_sem ↓] Go.wp_at_zero Go.wp_at_succ
/-- the boxes of Add: the model, what is answered, the spot -/
structure AB (w : World) (parent : Int) (role : ByteArray) (at_ next : Int) (A : Option Addr) (n c gs : Nat) (X : World) : Prop where
  m : Blk X w.heap.size 24 #[.int .i64 next, .slice A n c]
  r : Blk X (w.heap.size + 1) 24 #[.int .i64 0, .slice none 0 0]
  s : Blk X gs 51 #[.int .i64 parent, .string role, .int .i64 at_]
  bel : Below w.heap.size w X
structure A0 (w : World) (next : Int) (A : Option Addr) (n c : Nat) (X : World) : Prop where
  m : Blk X w.heap.size 24 #[.int .i64 next, .slice A n c]
  r : Blk X (w.heap.size + 1) 24 #[.int .i64 0, .slice none 0 0]
  bel : Below w.heap.size w X
section
variable {w X X' : World} {parent at_ next : Int} {role : ByteArray} {A : Option Addr} {n c gs : Nat}
theorem A0.start (w : World) (next : Int) (A : Option Addr) (n c : Nat) : A0 w next A n c ((w.alloc (.cells #[.int .i64 next, .slice A n c] 24)).alloc (.cells #[.int .i64 0, .slice none 0 0] 24)) :=
  ⟨(Blk.new _ _ _).alloc _, Blk.new' (by simp), below_more (below_more (Below.refl _ _) _) _⟩
theorem A0.after (h : A0 w next A n c X) (hb : Below X.heap.size X X') : A0 w next A n c X' := ⟨h.m.after hb, h.r.after hb, h.bel.trans (hb.mono h.bel.size)⟩
theorem A0.spot (h : A0 w next A n c X) (parent : Int) (role : ByteArray) (at_ : Int) : AB w parent role at_ next A n c X.heap.size (X.alloc (.cells #[.int .i64 parent, .string role, .int .i64 at_] 51)) :=
  ⟨h.m.alloc _, h.r.alloc _, Blk.new _ _ _, h.bel.trans ((below_more (Below.refl _ _) _).mono h.bel.size)⟩
theorem AB.after (h : AB w parent role at_ next A n c gs X) (hb : Below X.heap.size X X') : AB w parent role at_ next A n c gs X' := ⟨h.m.after hb, h.r.after hb, h.s.after hb, h.bel.trans (hb.mono h.bel.size)⟩
end
/-- .. and the model that is made -/
structure AO (w : World) (parent : Int) (role : ByteArray) (at_ next : Int) (A : Option Addr) (n c gs go : Nat) (nx : Int) (v : Value) (l : List (Nd × Leaf)) (X : World) : Prop where
  ab : AB w parent role at_ next A n c gs X
  out : Blk X go 24 #[.int .i64 nx, v]
  own : OwnM X w.heap.size v l
  le : w.heap.size ≤ go
  n1 : w.heap.size ≠ go
  n2 : w.heap.size + 1 ≠ go
section
variable {w X X' : World} {parent at_ next nx : Int} {role : ByteArray} {A : Option Addr} {n c gs go : Nat} {v : Value} {l : List (Nd × Leaf)}
theorem AO.after (h : AO w parent role at_ next A n c gs go nx v l X) (hb : Below X.heap.size X X') : AO w parent role at_ next A n c gs go nx v l X' := ⟨h.ab.after hb, h.out.after hb, h.own.after hb, h.le, h.n1, h.n2⟩
theorem AB.kept {n' : Nat} {v' : Value} {xs : List Value} (h : AB w parent role at_ next A n c gs X) (hown : X.ownsRow w.heap.size 44 7 v' n' xs) (hg : X.grownBy X' v'.ownBlock) : AB w parent role at_ next A n c gs X' :=
  ⟨h.m.grown hg (Ne.symm (own_blk_ne hown h.m (by decide))), h.r.grown hg (Ne.symm (own_blk_ne hown h.r (by decide))), h.s.grown hg (Ne.symm (own_blk_ne hown h.s (by decide))), below_grows h.bel hg hown (Nat.le_refl _)⟩
theorem ao_set (ab : AB w parent role at_ next A n c gs X) (out : Blk X go 24 #[.int .i64 nx, v]) (le : w.heap.size ≤ go) (n1 : w.heap.size ≠ go) (n2 : w.heap.size + 1 ≠ go) (i : Nat) (u : Value) {nx' : Int} {v' : Value} (he : (#[Value.int .i64 nx, v] : Array Value).setIfInBounds i u = #[.int .i64 nx', v']) {l' : List (Nd × Leaf)} (ho : OwnM X w.heap.size v' l') :
    AO w parent role at_ next A n c gs go nx' v' l' (X.setCell ⟨go, i, none⟩ u) :=
  ⟨⟨ab.m.far (p := ⟨go, i, none⟩) n1 u, ab.r.far (p := ⟨go, i, none⟩) n2 u, ab.s.far (p := ⟨go, i, none⟩) (ab.s.ne_ out (by decide)) u, ab.bel.setCell (p := ⟨go, i, none⟩) le u⟩, he ▸ out.set_ i u, ho.other out i u, le, n1, n2⟩
theorem OwnM.push {p : Nd × Leaf} {v' : Value} {B : Nat} (h : OwnM X B v l) (hg : X.grownBy X' v.ownBlock) (hown : X'.ownsRow B 44 7 v' (l.length + 1) (allCells l ++ ndCells p)) (hp : OwnLeaf X B p.1 p.2) : OwnM X' B v' (l ++ [p]) := by
  refine ⟨?_, fun q hq => ?_⟩
  · unfold OwnN
    have e : allCells (l ++ [p]) = allCells l ++ ndCells p := by simp [allCells]
    rw [e, List.length_append, List.length_singleton]
    exact hown
  · rcases List.mem_append.1 hq with hq | hq
    · exact (h.leaf q hq).kept h.own hg
    · obtain rfl : q = p := by simpa using hq
      exact hp.kept h.own hg
end
end Go.Proofs.Ytfljndlmafcjeaa

/-
  PLAIN: a model from which a node was taken: what is asked of it.
  WALKS: may a node stand there, also in a model from which one was taken; the document's count of levels.
  WALKS: slices.Contains of numbers.
  WALKS: the program's: a node is added.
-/
import Derived.Test.YtbkmdlfenbfdlaaGreatZC16
namespace Go.Proofs.YtbkmdlfenbfdlaaGreat
open Go Go.RowKit Go.Sort
set_option linter.unusedVariables false
section
variable {f : Nd → Nd} {nds : List Nd}
theorem ixOf_map (hf : ∀ y, (f y).id = y.id) (x : Int) : ixOf (nds.map f) x = ixOf nds x := by
  unfold ixOf
  rw [List.findIdx?_map]
  congr 1
  funext y
  simp [hf]
theorem ndOf_map (hf : ∀ y, (f y).id = y.id) (x : Int) : ndOf (nds.map f) x = (ndOf nds x).map f := by
  unfold ndOf
  rw [ixOf_map hf]
  cases ixOf nds x with
  | none => rfl
  | some i => simp
theorem rise_map (hf : ∀ y, (f y).id = y.id) (h : Rise nds) : Rise (nds.map f) := by
  have key : ∀ (j : Nat) x, (nds.map f)[j]? = some x → ∃ y, nds[j]? = some y ∧ y.id = x.id := by
    intro j x hx
    rw [List.getElem?_map] at hx
    cases hy : nds[j]? with
    | none => rw [hy] at hx; cases hx
    | some y =>
      rw [hy] at hx
      obtain rfl : f y = x := by simpa using hx
      exact ⟨y, rfl, (hf y).symm⟩
  refine ⟨fun i nd hi => ?_, fun i j a b hij ha hb => ?_⟩
  · obtain ⟨y, h1, h2⟩ := key i nd hi
    rw [← h2]; exact h.pos i y h1
  · obtain ⟨y, h1, h2⟩ := key i a ha
    obtain ⟨z, h3, h4⟩ := key j b hb
    rw [← h2, ← h4]; exact h.lt i j y z hij h1 h3
theorem upI_map (hf : ∀ y, (f y).id = y.id) (hp : ∀ y, (f y).par = y.par) (x : Int) : ∀ k, upI (nds.map f) x k = upI nds x k
  | 0 => rfl
  | k + 1 => by
    rw [upI, upI, upI_map hf hp x k, ndOf_map hf]
    cases ndOf nds (upI nds x k) with
    | none => rfl
    | some y => exact hp y
theorem depthV_map (hf : ∀ y, (f y).id = y.id) (hp : ∀ y, (f y).par = y.par) (x : Int) : depthV (nds.map f) x = depthV nds x := by
  unfold depthV
  congr 1
  congr 1
  funext k
  rw [upI_map hf hp]
theorem depthIs_map (hf : ∀ y, (f y).id = y.id) (hp : ∀ y, (f y).par = y.par) {x : Int} {K : Nat} (h : DepthIs nds x K) : DepthIs (nds.map f) x K :=
  ⟨by rw [upI_map hf hp]; exact h.top, fun k hk => by
    obtain ⟨h1, nd, h2⟩ := h.way k hk
    rw [upI_map hf hp]
    exact ⟨h1, f nd, by rw [ndOf_map hf, h2]; rfl⟩⟩
end
/-- what is asked of a model to which a node is put -/
structure LaxM (next : Int) (nds : List Nd) : Prop where
  rise : Rise nds
  lo : 1 ≤ next
  hi : next ≤ 1048577
  len : nds.length ≤ 4096
  kok : ∀ nd ∈ nds, KOk nds nd
  nodup : ∀ nd ∈ nds, nd.kids.Nodup
  dep : ∀ x nd, ndOf nds x = some nd → DepthIs nds x (depthV nds x) ∧ 1 ≤ depthV nds x ∧ depthV nds x ≤ 64
theorem RightM.lax {next : Int} {nds : List Nd} (h : RightM next nds) : LaxM next nds := ⟨h.rise, h.lo, h.hi, h.len, fun nd hnd => h.kOk hnd, fun nd hnd => (h.kids hnd).2, fun x nd hx => h.depth hx⟩
/-- a node's parent -/
def parV (nds : List Nd) (id : Int) : Int := match ndOf nds id with
  | some nd => nd.par
  | none => 0
def takeF (par id : Int) (y : Nd) : Nd := if y.id = par then { y with kids := lessI id y.kids } else y
def takeL (nds : List Nd) (id : Int) : List Nd := nds.map (takeF (parV nds id) id)
theorem takeF_id (par id : Int) (y : Nd) : (takeF par id y).id = y.id := by unfold takeF; split <;> rfl
theorem takeF_par (par id : Int) (y : Nd) : (takeF par id y).par = y.par := by unfold takeF; split <;> rfl
theorem takeF_kids (par id : Int) (y : Nd) : ∀ k ∈ (takeF par id y).kids, k ∈ y.kids := by
  intro k hk
  unfold takeF at hk
  split at hk
  · exact (List.mem_filter.1 hk).1
  · exact hk
theorem takeF_kl (par id : Int) (y : Nd) : (takeF par id y).kids.length ≤ y.kids.length := by
  unfold takeF
  split
  · exact lessI_len _ _
  · exact Nat.le_refl _
theorem LaxM.take {next : Int} {nds : List Nd} (h : LaxM next nds) (id : Int) : LaxM next (takeL nds id) := by
  have hf := takeF_id (parV nds id) id
  have hp := takeF_par (parV nds id) id
  refine ⟨rise_map hf h.rise, h.lo, h.hi, by unfold takeL; rw [List.length_map]; exact h.len, fun nd hnd => ?_, fun nd hnd => ?_, fun x nd hx => ?_⟩
  · obtain ⟨y, hy, rfl⟩ := List.mem_map.1 hnd
    have hk := h.kok y hy
    refine ⟨rise_map hf h.rise, by unfold takeL; rw [List.length_map]; exact h.len, Nat.le_trans (takeF_kl ..) hk.kl, fun k hkk => ?_⟩
    obtain ⟨x, hx⟩ := hk.kids k (takeF_kids _ _ _ k hkk)
    exact ⟨_, by unfold takeL; rw [ndOf_map hf, hx]; rfl⟩
  · obtain ⟨y, hy, rfl⟩ := List.mem_map.1 hnd
    unfold takeF
    split
    · exact List.Sublist.nodup List.filter_sublist (h.nodup y hy)
    · exact h.nodup y hy
  · unfold takeL at hx ⊢
    rw [ndOf_map hf] at hx
    cases hy : ndOf nds x with
    | none => rw [hy] at hx; cases hx
    | some y =>
      obtain ⟨h1, h2, h3⟩ := h.dep x y hy
      rw [depthV_map hf hp]
      exact ⟨depthIs_map hf hp h1, h2, h3⟩
/-- .. of a root nothing is taken -/
theorem takeL_root {nds : List Nd} (hr : Rise nds) {id : Int} (h : parV nds id = 0) : takeL nds id = nds := by
  unfold takeL
  rw [h]
  conv => rhs; rw [← List.map_id nds]
  refine List.map_congr_left fun y hy => ?_
  obtain ⟨i, hi⟩ := List.getElem?_of_mem hy
  have := hr.pos i y hi
  unfold takeF
  rw [if_neg (by omega)]; rfl
/-- .. of another one its parent is turned alone -/
theorem takeL_below {nds : List Nd} (hr : Rise nds) {id : Int} {jj : Nat} {x : Nd} (hx : nds[jj]? = some x) (h : x.id = parV nds id) : takeL nds id = nds.set jj { x with kids := lessI id x.kids } := by
  unfold takeL
  rw [← h]
  apply List.ext_getElem?
  intro j
  rw [List.getElem?_map, List.getElem?_set]
  by_cases e : jj = j
  · subst e
    rw [if_pos rfl, if_pos (List.getElem?_eq_some_iff.1 hx).1, hx]
    simp [takeF]
  · rw [if_neg e]
    cases hy : nds[j]? with
    | none => rfl
    | some y =>
      have hne : y.id ≠ x.id := fun he => e (hr.inj hx hy he.symm)
      simp [takeF, hne]
section
variable (w : World) (B : Nat) (next id : Int) (g n c : Nat) (l : List (Nd × Leaf))
/-- take, of a model that is right -/
theorem take_any (h : OwnM w B (.slice (some ⟨g, 0, none⟩) n c) l) (hn : l.length = n) (hR : RightM next (l.map (·.1))) (nd : Nd) (hx : ndOf (l.map (·.1)) id = some nd) (hin : nd.par ≠ 0 → ∃ x, ndOf (l.map (·.1)) nd.par = some x ∧ id ∈ x.kids) :
    Calls Tryz.prog 48 #[.agg #[.int .i64 next, .slice (some ⟨g, 0, none⟩) n c], .int .i64 id] w (PutPost w B g n c (takeL (l.map (·.1)) id)) := by
  have hn4 : n ≤ 4096 := by have := hR.len; rw [List.length_map] at this; omega
  obtain ⟨i, hix, hi, hie⟩ := ndOf_some hx
  rw [List.getElem?_map] at hi
  cases hp : l[i]? with
  | none => rw [hp] at hi; cases hi
  | some p =>
    rw [hp] at hi
    obtain rfl : p.1 = nd := by simpa using hi
    have hpv : parV (l.map (·.1)) id = p.1.par := by unfold parV; rw [hx]
    by_cases h0 : p.1.par = 0
    · rw [takeL_root hR.rise (by rw [hpv]; exact h0)]
      exact takeRoot_any w B next id g n c l h hn hn4 hR.rise i p hp hie h0
    · obtain ⟨x, hx1, hx2⟩ := hin h0
      obtain ⟨j, hjx, hj, hje⟩ := ndOf_some hx1
      have hj' := hj
      rw [List.getElem?_map] at hj
      cases hq : l[j]? with
      | none => rw [hq] at hj; cases hj
      | some q =>
        rw [hq] at hj
        obtain rfl : q.1 = x := by simpa using hj
        rw [takeL_below hR.rise hj' (by rw [hpv]; exact hje)]
        exact takeBelow_any w B next id g n c l h hn hn4 hR.rise i p hp hie h0 j q.1 q.2 hq hje (hR.kOk (List.mem_of_getElem? hj')).kl (List.length_pos_of_mem hx2)
end
end Go.Proofs.YtbkmdlfenbfdlaaGreat
namespace Go.Proofs.YtbkmdlfenbfdlaaGreat
open Go Go.RowKit Go.Sort
set_option linter.unusedVariables false
attribute [local go_sem ↓] Go.wp_at_zero Go.wp_at_succ
theorem admits_lax (w : World) (hi : Nat) (next parent at_ : Int) (role : ByteArray) (L M : Nat) (A : Option Addr) (n c : Nat) (nds : List Nd) (h : NodesIn w 0 hi A n c nds) (hh : hi ≤ w.heap.size) (hr : LaxM next nds) (hL : L ≤ 65) (hM : M ≤ 8192) :
    Calls Tryz.prog 45 #[.agg #[.int .i64 parent, .string role, .int .i64 at_], .agg #[.int .i64 next, .slice A n c], .int .i64 L, .int .i64 M] w (Ret w (.tuple #[.int .i64 (admV next nds parent role at_ L M).1, .int .i64 (admV next nds parent role at_ L M).2])) := by
  have hn : n ≤ 4096 := by rw [← h.1]; exact hr.len
  by_cases h1 : parent ≠ 0 ∧ (ndOf nds parent).isNone = true
  · have e : admV next nds parent role at_ L M = (0, 20) := by unfold admV; rw [if_pos h1]
    rw [e]
    exact admits_none w hi next parent at_ role L M A n c nds h hh hr.rise hn (Option.isNone_iff_eq_none.1 h1.2) h1.1
  · have e : admV next nds parent role at_ L M = (if (amV nds parent role at_).2 = false then (0, 22) else if 64 < depthV nds parent + L then (0, 23) else if 4096 < n + M then (0, 4) else if 1048576 < next - 1 + M then (0, 4) else ((amV nds parent role at_).1, 0)) := by
      unfold admV; rw [if_neg h1, h.1]
    have hDep : DepthIs nds parent (depthV nds parent) ∧ depthV nds parent ≤ 64 := by
      by_cases h0 : parent = 0
      · subst h0
        exact ⟨depth_root.1, by rw [depth_root.2]; omega⟩
      · cases hx : ndOf nds parent with
        | none => exact absurd ⟨h0, by rw [hx]; rfl⟩ h1
        | some nd => exact ⟨(hr.dep _ _ hx).1, (hr.dep _ _ hx).2.2⟩
    refine admits_some w next parent at_ role L M (depthV nds parent) A n c h.2.2.1 hn hr.lo hr.hi hL hM hDep.2 (amV nds parent role at_).1 (amV nds parent role at_).2 ?_ ?_ ?_ _ e.symm
    · refine Lib.hid fun X hX => ?_
      have h2 := has_any X hi next parent A n c nds (h.below (hX.mono hh)) (Nat.le_trans hh hX.size) hr.rise hn
      rw [has_ndOf] at h2
      have e2 : (parent != 0) = (ndOf nds parent).isSome := by
        by_cases h0 : parent = 0
        · subst h0
          have : ndOf nds 0 = none := by
            cases hx : ndOf nds 0 with
            | none => rfl
            | some nd =>
              obtain ⟨i, _, h3, h4⟩ := ndOf_some hx
              have := hr.rise.pos i nd h3
              omega
          rw [this]; rfl
        · cases hx : ndOf nds parent with
          | none => exact absurd ⟨h0, by rw [hx]; rfl⟩ h1
          | some nd => show (parent != 0) = true; rw [bne_iff_ne]; exact h0
      rw [e2]
      exact h2
    · refine Lib.hid fun X hX => ?_
      by_cases h0 : parent = 0
      · subst h0
        have e2 : amV nds 0 role at_ = (0, role.toList.isEmpty && at_ == 0) := by unfold amV; rw [if_pos rfl]
        rw [e2]
        exact among_root X next at_ role A n c _ rfl
      · cases hx : ndOf nds parent with
        | none => exact absurd ⟨h0, by rw [hx]; rfl⟩ h1
        | some nd =>
          obtain ⟨i, _, h3, _⟩ := ndOf_some hx
          have e2 : amV nds parent role at_ = amongF (inRoleB nds role) at_ 0 nd.kids.length 0 nd.kids := by unfold amV; rw [if_neg h0, hx]
          exact among_any X hi next parent at_ role A n c nds (h.below (hX.mono hh)) (Nat.le_trans hh hX.size) nd (hr.kok _ (List.mem_of_getElem? h3)) hx h0 _ e2.symm
    · exact Lib.hid fun X hX => depth_any X hi next parent A n c nds (h.below (hX.mono hh)) (Nat.le_trans hh hX.size) hr.rise hn _ hDep.1 (by omega)
theorem below_up {next : Int} {nds : List Nd} (hR : RightM next nds) {x y : Int} {nd : Nd} (hx : ndOf nds x = some nd) (hy : y ∈ belowV nds x) : (∃ nd', ndOf nds y = some nd') ∧ depthV nds x ≤ depthV nds y := by
  have h1 := below_pre hR hx
  have hk := AtD.kids hR (x := x) ⟨⟨nd, hx⟩, rfl⟩
  rw [kidsV_of hx] at hk
  rw [← h1] at hy
  obtain ⟨q, hq, rfl⟩ := List.mem_map.1 hy
  obtain ⟨h2, h3, h4, _⟩ := pre_mem hR _ _ _ _ hk q hq
  exact ⟨h2, by omega⟩
end Go.Proofs.YtbkmdlfenbfdlaaGreat
namespace Go.Proofs.YtbkmdlfenbfdlaaGreat
open Go Go.RowKit Go.Sort
set_option linter.unusedVariables false
attribute [local go_sem ↓] Go.wp_at_zero Go.wp_at_succ
set_option maxHeartbeats 800000 in
theorem index_int (w : World) (lo hi : Nat) (A : Option Addr) (n c : Nat) (l : List Int) (x : Int) (h : Row w lo hi 1 A n c (intCells l)) :
    Calls Tryz.prog 90 #[.slice A n c, .int .i64 x] w fun e w' => e = .returned (.int .i64 (idxV l x)) ∧ w = w' := by
  have hc := h.2.2.1
  have hnc := h.2.1
  have hl : l.length = n := by have := h.1; rw [intCells_length] at this; omega
  have HL := Lib.hid hl
  unfold maxLen at hc
  clear hl
  go_enter Tryz.func90, Tryz.ntmps90
  go_wp2_with fail
  go_loop [8] (fun i => ∃ k : Nat, k ≤ n ∧ i = .int .i64 k ∧ Hid (∀ (i : Nat) y, i < k → l[i]? = some y → y ≠ x)) (fun i => n - (intOf i).toNat)
  case atStart => exact ⟨0, by omega, rfl, Lib.hid (fun i y hi => absurd hi (by omega))⟩
  case round =>
    obtain ⟨k, hk, rfl, HK⟩ := hrel
    by_cases hlt : k < n
    · obtain ⟨b, o, rfl, _, hb, hcells⟩ := h.at_ (by omega)
      obtain ⟨y, hy⟩ : ∃ y, l[k]? = some y := ⟨l[k]'(by have := HL.out; omega), List.getElem?_eq_getElem _⟩
      have hck := hcells k _ (intCells_get hy)
      by_cases e : y = x
      · have d1 : (x == y) = true := by rw [beq_iff_eq]; exact e.symm
        have HX : Hid (idxV l x = k) := Lib.hid (idxV_at HK.out (by rw [hy, e]))
        clear e hy hcells
        go_wp2_with fail
        go_ret
        exact ⟨ret_int HX.out.symm, rfl⟩
      · have d1 : (x == y) = false := by rw [beq_eq_false_iff_ne]; exact fun h => e h.symm
        have HX : Hid (∀ (i : Nat) y, i < k + 1 → l[i]? = some y → y ≠ x) := Lib.hid (fun i z hi hz => by
          by_cases g : i = k
          · subst g; rw [hy] at hz; injection hz with hz; rw [← hz]; exact e
          · exact HK.out i z (by omega) hz)
        clear e hy hcells
        go_wp2_with fail
        go_round
        case rel => exact ⟨k + 1, by omega, by go_num, HX⟩
        case measure => simp [intOf]; omega
    · have HX : Hid (idxV l x = -1) := Lib.hid (idxV_no (fun i y hi => HK.out i y (by have := (List.getElem?_eq_some_iff.1 hi).1; have := HL.out; omega) hi))
      go_wp2_with fail
      go_ret
      exact ⟨ret_int HX.out.symm, rfl⟩
set_option maxHeartbeats 400000 in
theorem contains_int (w : World) (lo hi : Nat) (A : Option Addr) (n c : Nat) (l : List Int) (x : Int) (h : Row w lo hi 1 A n c (intCells l)) :
    Calls Tryz.prog 55 #[.slice A n c, .int .i64 x] w (Says w (l.contains x)) := by
  have HI := Lib.hid (index_int w lo hi A n c l x h)
  have HX := Lib.hid (idxV_ge l x)
  clear h
  go_enter Tryz.func55, Tryz.ntmps55
  go_wp2_with (go_at_call 90; refine HI.out.mono ?_; rintro e w' ⟨rfl, rfl⟩)
  go_ret
  exact ⟨ret_bool HX.out, rfl⟩
end Go.Proofs.YtbkmdlfenbfdlaaGreat
namespace Go.Proofs.YtbkmdlfenbfdlaaGreat
open Go Go.RowKit Go.Sort
set_option linter.unusedVariables false
attribute [local go_sem ↓] Go.wp_at_zero Go.wp_at_succ
/-- the error that is told -/
def addE (next : Int) (nds : List Nd) (parent : Int) (role : ByteArray) (at_ : Int) (con : ByteArray) : Int :=
  if rightB next nds = false then 29 else if (wordB con && (parent == 0 || wordB role)) = false then 2 else (admV next nds parent role at_ 1 1).2
def newNd (next : Int) (con : ByteArray) : Nd := ⟨next, con, 0, ⟨#[]⟩, [], [], []⟩
/-- the nodes, behind it -/
def addL (next : Int) (nds : List Nd) (parent : Int) (role : ByteArray) (con : ByteArray) (a : Nat) : List Nd :=
  if parent = 0 then (nds ++ [newNd next con]).set nds.length { newNd next con with par := parent, role := role }
  else ((nds ++ [newNd next con]).set nds.length { newNd next con with par := parent, role := role }).set ((ixOf nds parent).getD 0) (match ndOf nds parent with
    | some x => { x with kids := insAt x.kids a next }
    | none => newNd next con)
/-- what Add answers -/
def AddPost (w : World) (next : Int) (nds : List Nd) (parent : Int) (role : ByteArray) (at_ : Int) (con : ByteArray) (e : Ending) (w' : World) : Prop :=
  Below w.heap.size w w' ∧ ((addE next nds parent role at_ con ≠ 0 ∧ e = .returned (.tuple #[.agg #[.int .i64 0, .slice none 0 0], .int .i64 0, .int .i64 (addE next nds parent role at_ con)])) ∨
    (addE next nds parent role at_ con = 0 ∧ ∃ A c l, e = .returned (.tuple #[.agg #[.int .i64 (next + 1), .slice A (nds.length + 1) c], .int .i64 next, .int .i64 0]) ∧ OwnM w' w.heap.size (.slice A (nds.length + 1) c) l ∧
      l.map (·.1) = addL next nds parent role con (admV next nds parent role at_ 1 1).1.toNat))
/-- the boxes of Add: the model, what is answered, the spot -/
structure AB (w : World) (parent : Int) (role : ByteArray) (at_ next : Int) (A : Option Addr) (n c gs : Nat) (X : World) : Prop where
  m : Blk X w.heap.size 26 #[.int .i64 next, .slice A n c]
  r : Blk X (w.heap.size + 1) 26 #[.int .i64 0, .slice none 0 0]
  s : Blk X gs 78 #[.int .i64 parent, .string role, .int .i64 at_]
  bel : Below w.heap.size w X
structure A0 (w : World) (next : Int) (A : Option Addr) (n c : Nat) (X : World) : Prop where
  m : Blk X w.heap.size 26 #[.int .i64 next, .slice A n c]
  r : Blk X (w.heap.size + 1) 26 #[.int .i64 0, .slice none 0 0]
  bel : Below w.heap.size w X
section
variable {w X X' : World} {parent at_ next : Int} {role : ByteArray} {A : Option Addr} {n c gs : Nat}
theorem A0.start (w : World) (next : Int) (A : Option Addr) (n c : Nat) : A0 w next A n c ((w.alloc (.cells #[.int .i64 next, .slice A n c] 26)).alloc (.cells #[.int .i64 0, .slice none 0 0] 26)) :=
  ⟨(Blk.new _ _ _).alloc _, Blk.new' (by simp), below_more (below_more (Below.refl _ _) _) _⟩
theorem A0.after (h : A0 w next A n c X) (hb : Below X.heap.size X X') : A0 w next A n c X' := ⟨h.m.after hb, h.r.after hb, h.bel.trans (hb.mono h.bel.size)⟩
theorem A0.spot (h : A0 w next A n c X) (parent : Int) (role : ByteArray) (at_ : Int) : AB w parent role at_ next A n c X.heap.size (X.alloc (.cells #[.int .i64 parent, .string role, .int .i64 at_] 78)) :=
  ⟨h.m.alloc _, h.r.alloc _, Blk.new _ _ _, h.bel.trans ((below_more (Below.refl _ _) _).mono h.bel.size)⟩
theorem AB.after (h : AB w parent role at_ next A n c gs X) (hb : Below X.heap.size X X') : AB w parent role at_ next A n c gs X' := ⟨h.m.after hb, h.r.after hb, h.s.after hb, h.bel.trans (hb.mono h.bel.size)⟩
end
/-- .. and the model that is made -/
structure AO (w : World) (parent : Int) (role : ByteArray) (at_ next : Int) (A : Option Addr) (n c gs go : Nat) (nx : Int) (v : Value) (l : List (Nd × Leaf)) (X : World) : Prop where
  ab : AB w parent role at_ next A n c gs X
  out : Blk X go 26 #[.int .i64 nx, v]
  own : OwnM X w.heap.size v l
  le : w.heap.size ≤ go
  n1 : w.heap.size ≠ go
  n2 : w.heap.size + 1 ≠ go
section
variable {w X X' : World} {parent at_ next nx : Int} {role : ByteArray} {A : Option Addr} {n c gs go : Nat} {v : Value} {l : List (Nd × Leaf)}
theorem AO.after (h : AO w parent role at_ next A n c gs go nx v l X) (hb : Below X.heap.size X X') : AO w parent role at_ next A n c gs go nx v l X' := ⟨h.ab.after hb, h.out.after hb, h.own.after hb, h.le, h.n1, h.n2⟩
theorem AB.kept {n' : Nat} {v' : Value} {xs : List Value} (h : AB w parent role at_ next A n c gs X) (hown : X.ownsRow w.heap.size 41 7 v' n' xs) (hg : X.grownBy X' v'.ownBlock) : AB w parent role at_ next A n c gs X' :=
  ⟨h.m.grown hg (Ne.symm (own_blk_ne hown h.m (by decide))), h.r.grown hg (Ne.symm (own_blk_ne hown h.r (by decide))), h.s.grown hg (Ne.symm (own_blk_ne hown h.s (by decide))), below_grows h.bel hg hown (Nat.le_refl _)⟩
theorem ao_set (ab : AB w parent role at_ next A n c gs X) (out : Blk X go 26 #[.int .i64 nx, v]) (le : w.heap.size ≤ go) (n1 : w.heap.size ≠ go) (n2 : w.heap.size + 1 ≠ go) (i : Nat) (u : Value) {nx' : Int} {v' : Value} (he : (#[Value.int .i64 nx, v] : Array Value).setIfInBounds i u = #[.int .i64 nx', v']) {l' : List (Nd × Leaf)} (ho : OwnM X w.heap.size v' l') :
    AO w parent role at_ next A n c gs go nx' v' l' (X.setCell ⟨go, i, none⟩ u) :=
  ⟨⟨ab.m.far (p := ⟨go, i, none⟩) n1 u, ab.r.far (p := ⟨go, i, none⟩) n2 u, ab.s.far (p := ⟨go, i, none⟩) (ab.s.ne_ out (by decide)) u, ab.bel.setCell (p := ⟨go, i, none⟩) le u⟩, he ▸ out.set_ i u, ho.other out i u, le, n1, n2⟩
theorem OwnM.push {p : Nd × Leaf} {v' : Value} {B : Nat} (h : OwnM X B v l) (hg : X.grownBy X' v.ownBlock) (hown : X'.ownsRow B 41 7 v' (l.length + 1) (allCells l ++ ndCells p)) (hp : OwnLeaf X B p.1 p.2) : OwnM X' B v' (l ++ [p]) := by
  refine ⟨?_, fun q hq => ?_⟩
  · unfold OwnN
    have e : allCells (l ++ [p]) = allCells l ++ ndCells p := by simp [allCells]
    rw [e, List.length_append, List.length_singleton]
    exact hown
  · rcases List.mem_append.1 hq with hq | hq
    · exact (h.leaf q hq).kept h.own hg
    · obtain rfl : q = p := by simpa using hq
      exact hp.kept h.own hg
theorem leaf_new (w : World) (B : Nat) (next : Int) (con : ByteArray) (hs : con.size ≤ maxLen) : OwnLeaf w B (newNd next con) ⟨⟨none, 0, 0⟩, ⟨none, 0, 0⟩, ⟨none, 0, 0⟩⟩ :=
  ⟨rfl, rfl, rfl, ⟨by simp [newNd, propCells], .inl ⟨rfl, rfl⟩⟩, ⟨by simp [newNd, intCells], .inl ⟨rfl, rfl⟩⟩, ⟨by simp [newNd, refCells], .inl ⟨rfl, rfl⟩⟩, ⟨hs, by simp [newNd, ByteArray.size, maxLen], by simp [newNd], by simp [newNd]⟩⟩
end
/-- what it means that no error is told -/
theorem adm_ok {next : Int} {nds : List Nd} {parent : Int} {role : ByteArray} {at_ ri : Int} (hr : RightM next nds) (h : admV next nds parent role at_ 1 1 = (ri, 0)) :
    (parent ≠ 0 → ∃ x, ndOf nds parent = some x) ∧ (amV nds parent role at_).2 = true ∧ nds.length + 1 ≤ 4096 ∧ next ≤ 1048576 ∧
    (parent ≠ 0 → ∃ (x : Nd) (jj a : Nat), ndOf nds parent = some x ∧ ixOf nds parent = some jj ∧ nds[jj]? = some x ∧ x.id = parent ∧ ri = a ∧ a ≤ x.kids.length ∧ KOk nds x ∧ beforeV (inRoleB nds role) at_ x.kids = a) := by
  unfold admV at h
  split at h
  · cases h
  · rename_i h1
    split at h
    · cases h
    · rename_i h2
      split at h
      · cases h
      · split at h
        · cases h
        · rename_i h4
          split at h
          · cases h
          · rename_i h5
            have hri : (amV nds parent role at_).1 = ri := by injection h
            have h2' : (amV nds parent role at_).2 = true := by simpa using h2
            have hx : parent ≠ 0 → ∃ x, ndOf nds parent = some x := fun h0 => by
              cases hx : ndOf nds parent with
              | none => exact absurd ⟨h0, by rw [hx]; rfl⟩ h1
              | some x => exact ⟨x, rfl⟩
            refine ⟨hx, h2', by omega, by omega, fun h0 => ?_⟩
            obtain ⟨x, hx⟩ := hx h0
            obtain ⟨jj, j1, j2, j3⟩ := ndOf_some hx
            have hk := hr.kOk (List.mem_of_getElem? j2)
            have hnd := (hr.kids (List.mem_of_getElem? j2)).2
            have e2 : amV nds parent role at_ = amongF (inRoleB nds role) at_ 0 x.kids.length 0 x.kids := by unfold amV; rw [if_neg h0, hx]
            obtain ⟨b1, b2⟩ := among_before (f := inRoleB nds role) (at_ := at_) hnd
            rw [e2] at h2' hri
            have b3 := b2 h2'
            rw [hri] at b3
            rw [h2'] at b1
            have b4 : beforeV (inRoleB nds role) at_ x.kids ≠ -1 := of_decide_eq_true b1.symm
            rcases before_range (inRoleB nds role) at_ x.kids with b5 | ⟨a, b5, b6⟩
            · exact absurd b5 b4
            · exact ⟨x, jj, a, hx, j1, j2, j3, by rw [b3, b5], b6, hk, b5⟩
set_option maxRecDepth 100000 in
set_option maxHeartbeats 6400000 in
theorem add_any (w : World) (hi : Nat) (next parent at_ : Int) (role con : ByteArray) (A : Option Addr) (n c : Nat) (nds : List Nd) (h : NodesIn w 0 hi A n c nds) (hh : hi ≤ w.heap.size) (hs : role.size ≤ maxLen) (hs2 : con.size ≤ maxLen) (hf : ∀ nd ∈ nds, Fits 1 nd) :
    Calls Tryz.prog 18 #[.agg #[.int .i64 next, .slice A n c], .int .i64 parent, .string role, .int .i64 at_, .string con] w (AddPost w next nds parent role at_ con) := by
  have hres : Tryz.f18.results = #[.cell 10 26, .tmp 11, .tmp 12] := by kernel_rfl
  have HA0 := Lib.hid (A0.start w next A n c)
  have HCk : Hid (∀ X, Below w.heap.size w X → Calls Tryz.prog 12 #[.agg #[.int .i64 next, .slice A n c]] X (Ret X (.int .i64 (checkV next nds)))) := Lib.hid fun X hX => check_any X hi next A n c nds (h.below (hX.mono hh)) (Nat.le_trans hh hX.size)
  cases hr : rightB next nds with
  | false =>
    have hE : addE next nds parent role at_ con = 29 := by unfold addE; rw [if_pos hr]
    have hcv : checkV next nds = 29 := by unfold checkV; rw [hr]; rfl
    rw [hcv] at HCk
    have HE := Lib.hid hE
    clear h hf hE hcv
    go_enter Tryz.func18, Tryz.ntmps18
    go_wp2_with (go_at_call 12; go_must (refine (HCk.out _ HA0.out.bel).mono ?_; rintro e w1 ⟨rfl, hb1⟩; have ha1 := HA0.out.after hb1; have r0 := ha1.r.cell 0; have r1 := ha1.r.cell 1; have r2 := ha1.r.frozen 0; have r3 := ha1.r.frozen 1; have m0 := ha1.m.cell 0; have m1 := ha1.m.cell 1; have m2 := ha1.m.frozen 0; simp at r0 r1 m0 m1; have HA1 := Lib.hid ha1; clear ha1 hb1))
    (try rw [Exit.noGoto_ret])
    (try simp only [Exit.inBlock, Exit.then])
    refine bodyPost_ret (v := .tuple #[.agg #[.int .i64 0, .slice none 0 0], .int .i64 0, .int .i64 29]) ?hr rfl ?_
    case hr =>
      simp only [results, hres]
      go_simp
    exact ⟨(HA1.out.bel.setCell (p := ⟨w.heap.size + 1, 0, none⟩) (by simp) _).setCell (p := ⟨w.heap.size + 1, 1, none⟩) (by simp) _, .inl ⟨by rw [HE.out]; decide, by rw [HE.out]⟩⟩
  | true =>
    have hcv : checkV next nds = 0 := by unfold checkV; rw [hr]; rfl
    rw [hcv] at HCk
    have hrm := rightM hr
    cases hwd : (wordB con && (parent == 0 || wordB role)) with
    | false =>
      have HE : Hid (addE next nds parent role at_ con = 2) := Lib.hid (by unfold addE; rw [if_neg (by rw [hr]; simp), if_pos hwd])
      cases hwc : wordB con with
      | false =>
        have HW : Hid (∀ X, Calls Tryz.prog 43 #[.string con] X (Says X false)) := Lib.hid fun X => word_is con false X hs2 hwc
        clear h hf hrm hwd hwc
        go_enter Tryz.func18, Tryz.ntmps18
        go_upto_region 5 with (go_at_call 12; go_must (refine (HCk.out _ HA0.out.bel).mono ?_; rintro e w1 ⟨rfl, hb1⟩; have ha1 := HA0.out.after hb1; have r0 := ha1.r.cell 0; have r1 := ha1.r.cell 1; have r2 := ha1.r.frozen 0; have r3 := ha1.r.frozen 1; have m0 := ha1.m.cell 0; have m1 := ha1.m.cell 1; have m2 := ha1.m.frozen 0; simp at r0 r1 m0 m1; have HA1 := Lib.hid ha1; clear ha1 hb1))
        have HB := Lib.hid (HA1.out.spot parent role at_)
        generalize w1.alloc (.cells #[.int .i64 parent, .string role, .int .i64 at_] 78) = X5 at HB ⊢
        generalize w1.heap.size = gs at HB ⊢
        have b0 := HB.out.r.cell 0
        have b1 := HB.out.r.cell 1
        have b2 := HB.out.r.frozen 0
        have b3 := HB.out.r.frozen 1
        have b4 := HB.out.s.cell 0
        have b5 := HB.out.s.cell 1
        have b6 := HB.out.s.cell 2
        have b7 := HB.out.m.cell 0
        have b8 := HB.out.m.cell 1
        simp at b0 b1 b4 b5 b6 b7 b8
        go_wp2_with (go_at_call 43; go_must (refine (HW.out _).mono ?_; rintro e w2 ⟨rfl, rfl⟩))
        (try rw [Exit.noGoto_ret])
        (try simp only [Exit.inBlock, Exit.then])
        refine bodyPost_ret (v := .tuple #[.agg #[.int .i64 0, .slice none 0 0], .int .i64 0, .int .i64 2]) ?hr rfl ?_
        case hr =>
          simp only [results, hres]
          go_simp
        exact ⟨(HB.out.bel.setCell (p := ⟨w.heap.size + 1, 0, none⟩) (by simp) _).setCell (p := ⟨w.heap.size + 1, 1, none⟩) (by simp) _, .inl ⟨by rw [HE.out]; decide, by rw [HE.out]⟩⟩
      | true =>
        have HW : Hid (∀ X, Calls Tryz.prog 43 #[.string con] X (Says X true)) := Lib.hid fun X => word_is con true X hs2 hwc
        have HNm : Hid (∀ X, Calls Tryz.prog 44 #[.agg #[.int .i64 parent, .string role, .int .i64 at_]] X (Ret X (.bool false))) := Lib.hid fun X => named_any X parent at_ role hs false (by rw [hwc] at hwd; simpa using hwd)
        clear h hf hrm hwd hwc
        go_enter Tryz.func18, Tryz.ntmps18
        go_upto_region 5 with (go_at_call 12; go_must (refine (HCk.out _ HA0.out.bel).mono ?_; rintro e w1 ⟨rfl, hb1⟩; have ha1 := HA0.out.after hb1; have r0 := ha1.r.cell 0; have r1 := ha1.r.cell 1; have r2 := ha1.r.frozen 0; have r3 := ha1.r.frozen 1; have m0 := ha1.m.cell 0; have m1 := ha1.m.cell 1; have m2 := ha1.m.frozen 0; simp at r0 r1 m0 m1; have HA1 := Lib.hid ha1; clear ha1 hb1))
        have HB := Lib.hid (HA1.out.spot parent role at_)
        generalize w1.alloc (.cells #[.int .i64 parent, .string role, .int .i64 at_] 78) = X5 at HB ⊢
        generalize w1.heap.size = gs at HB ⊢
        have b0 := HB.out.r.cell 0
        have b1 := HB.out.r.cell 1
        have b2 := HB.out.r.frozen 0
        have b3 := HB.out.r.frozen 1
        have b4 := HB.out.s.cell 0
        have b5 := HB.out.s.cell 1
        have b6 := HB.out.s.cell 2
        have b7 := HB.out.m.cell 0
        have b8 := HB.out.m.cell 1
        simp at b0 b1 b4 b5 b6 b7 b8
        go_wp2_with (first | (go_at_call 43; go_must (refine (HW.out _).mono ?_; rintro e w2 ⟨rfl, rfl⟩)) | (go_at_call 44; go_must (refine (HNm.out _).mono ?_; rintro e w2 ⟨rfl, hb2⟩; have hb2' := HB.out.after hb2; have p0 := hb2'.r.cell 0; have p1 := hb2'.r.cell 1; have p2 := hb2'.r.frozen 0; have p3 := hb2'.r.frozen 1; have p4 := hb2'.m.cell 0; have p5 := hb2'.m.cell 1; have p6 := hb2'.m.frozen 0; simp at p0 p1 p4 p5; have p7 := hb2'.s.cell 0; have p8 := hb2'.s.cell 1; have p9 := hb2'.s.cell 2; simp at p7 p8 p9; have HB2 := Lib.hid hb2'; clear hb2 hb2')))
        (try rw [Exit.noGoto_ret])
        (try simp only [Exit.inBlock, Exit.then])
        refine bodyPost_ret (v := .tuple #[.agg #[.int .i64 0, .slice none 0 0], .int .i64 0, .int .i64 2]) ?hr rfl ?_
        case hr =>
          simp only [results, hres]
          go_simp
        exact ⟨(HB2.out.bel.setCell (p := ⟨w.heap.size + 1, 0, none⟩) (by simp) _).setCell (p := ⟨w.heap.size + 1, 1, none⟩) (by simp) _, .inl ⟨by rw [HE.out]; decide, by rw [HE.out]⟩⟩
    | true =>
      have hw2 := Bool.and_eq_true_iff.1 hwd
      have HW : Hid (∀ X, Calls Tryz.prog 43 #[.string con] X (Says X true)) := Lib.hid fun X => word_is con true X hs2 hw2.1
      have HNm : Hid (∀ X, Calls Tryz.prog 44 #[.agg #[.int .i64 parent, .string role, .int .i64 at_]] X (Ret X (.bool true))) := Lib.hid fun X => named_any X parent at_ role hs true hw2.2
      have hEE : addE next nds parent role at_ con = (admV next nds parent role at_ 1 1).2 := by unfold addE; rw [if_neg (by rw [hr]; simp), if_neg (by rw [hwd]; simp)]
      obtain ⟨rr, hrr⟩ : ∃ rr, admV next nds parent role at_ 1 1 = rr := ⟨_, rfl⟩
      have HAd : Hid (∀ X, Below w.heap.size w X → Calls Tryz.prog 45 #[.agg #[.int .i64 parent, .string role, .int .i64 at_], .agg #[.int .i64 next, .slice A n c], .int .i64 1, .int .i64 1] X (Ret X (.tuple #[.int .i64 rr.1, .int .i64 rr.2]))) := Lib.hid fun X hX => by
        rw [← hrr]
        exact admits_any X hi next parent at_ role 1 1 A n c nds (h.below (hX.mono hh)) (Nat.le_trans hh hX.size) hrm (by omega) (by omega)
      rw [hrr] at hEE
      obtain ⟨ri, re⟩ := rr
      by_cases hz : re = 0
      · subst hz
        obtain ⟨p1, p2, p3, p4, p5⟩ := adm_ok hrm hrr
        have HE : Hid (addE next nds parent role at_ con = 0) := Lib.hid hEE
        have hrr1 : (admV next nds parent role at_ 1 1).1 = ri := by rw [hrr]
        have HR1 := Lib.hid hrr1
        have hn : n ≤ 4095 := by rw [← h.1]; omega
        have HLN : Hid (nds.length = n) := Lib.hid h.1
        have HOw : Hid (∀ X, Below w.heap.size w X → Calls Tryz.prog 46 #[.agg #[.int .i64 next, .slice A n c]] X fun e w' => ∃ g l, e = .returned (.agg #[.int .i64 next, .slice (some ⟨g, 0, none⟩) n n]) ∧ OwnM w' X.heap.size (.slice (some ⟨g, 0, none⟩) n n) l ∧ l.map (·.1) = nds ∧ Below X.heap.size X w') := Lib.hid fun X hX => own_any X hi next A n c nds (h.below (hX.mono hh)) (Nat.le_trans hh hX.size) (by omega) hf
        have HP := Lib.hid p5
        have HRM := Lib.hid hrm
        have hx1 := hrm.lo
        have hx2 := hrm.hi
        obtain ⟨i0, hi0, hz0, hz1, hz2⟩ := info_parts nodeInfo
        clear h hf hrm hwd hw2 hEE hrr hrr1 p1 p2 p5
        go_enter Tryz.func18, Tryz.ntmps18
        go_upto_region 5 with (go_at_call 12; go_must (refine (HCk.out _ HA0.out.bel).mono ?_; rintro e w1 ⟨rfl, hb1⟩; have ha1 := HA0.out.after hb1; have r0 := ha1.r.cell 0; have r1 := ha1.r.cell 1; have r2 := ha1.r.frozen 0; have r3 := ha1.r.frozen 1; have m0 := ha1.m.cell 0; have m1 := ha1.m.cell 1; have m2 := ha1.m.frozen 0; simp at r0 r1 m0 m1; have HA1 := Lib.hid ha1; clear ha1 hb1))
        have HB := Lib.hid (HA1.out.spot parent role at_)
        generalize w1.alloc (.cells #[.int .i64 parent, .string role, .int .i64 at_] 78) = X5 at HB ⊢
        generalize w1.heap.size = gs at HB ⊢
        have b0 := HB.out.r.cell 0
        have b1 := HB.out.r.cell 1
        have b2 := HB.out.r.frozen 0
        have b3 := HB.out.r.frozen 1
        have b4 := HB.out.s.cell 0
        have b5 := HB.out.s.cell 1
        have b6 := HB.out.s.cell 2
        have b7 := HB.out.m.cell 0
        have b8 := HB.out.m.cell 1
        simp at b0 b1 b4 b5 b6 b7 b8
        go_upto_region 10 with (first | (go_at_call 43; go_must (refine (HW.out _).mono ?_; rintro e w2 ⟨rfl, rfl⟩)) | (go_at_call 44; go_must (refine (HNm.out _).mono ?_; rintro e w2 ⟨rfl, hb2⟩; have hb2' := HB.out.after hb2; have p0 := hb2'.r.cell 0; have p1 := hb2'.r.cell 1; have p2 := hb2'.r.frozen 0; have p3 := hb2'.r.frozen 1; have p4 := hb2'.m.cell 0; have p5 := hb2'.m.cell 1; have p6 := hb2'.m.frozen 0; simp at p0 p1 p4 p5; have p7 := hb2'.s.cell 0; have p8 := hb2'.s.cell 1; have p9 := hb2'.s.cell 2; simp at p7 p8 p9; have HB2 := Lib.hid hb2'; clear hb2 hb2')) | (go_at_call 45; go_must (refine (HAd.out _ HB2.out.bel).mono ?_; rintro e w3 ⟨rfl, hb3⟩; have hb3' := HB2.out.after hb3; have q0 := hb3'.r.cell 0; have q1 := hb3'.r.cell 1; have q2 := hb3'.r.frozen 0; have q3 := hb3'.r.frozen 1; have q4 := hb3'.m.cell 0; have q5 := hb3'.m.cell 1; have q6 := hb3'.m.frozen 0; simp at q0 q1 q4 q5; have q7 := hb3'.s.cell 0; have q8 := hb3'.s.cell 1; have q9 := hb3'.s.cell 2; simp at q7 q8 q9; have HB3 := Lib.hid hb3'; clear hb3 hb3')))
        go_upto_region 11 with (go_at_call 46; go_must (refine (HOw.out _ HB3.out.bel).mono ?_; rintro e w4 ⟨g, l, rfl, ho4, hl4, hb4⟩; have HB4 := Lib.hid (HB3.out.after hb4); have HO4 := Lib.hid (ho4.mono HB3.out.bel.size); have HL4 := Lib.hid hl4; clear hb4 ho4 hl4))
        have HLn : Hid (l.length = n) := Lib.hid (by have := congrArg List.length HL4.out; rw [List.length_map, HLN.out] at this; exact this)
        have hsz4 := HB4.out.bel.size
        have hsr := HB4.out.r.lt
        have HX6 : Hid (AO w parent role at_ next A n c gs w4.heap.size next (.slice (some ⟨g, 0, none⟩) n n) l (w4.alloc (.cells #[.int .i64 next, .slice (some ⟨g, 0, none⟩) n n] 26))) := Lib.hid ⟨HB4.out.after (below_more (Below.refl _ _) _), Blk.new _ _ _, HO4.out.after (below_more (Below.refl _ _) _), hsz4, by omega, by omega⟩
        generalize w4.alloc (.cells #[.int .i64 next, .slice (some ⟨g, 0, none⟩) n n] 26) = X6 at HX6 ⊢
        generalize w4.heap.size = go at HX6 ⊢
        have g0 := HX6.out.out.cell 0
        have g1 := HX6.out.out.cell 1
        have g2 := HX6.out.ab.m.cell 0
        simp at g0 g1 g2
        have HLf := Lib.hid (leaf_new (X6.alloc (.cells #[.int .i64 next, .string con, .int .i64 0, .string ⟨#[]⟩, .slice none 0 0, .slice none 0 0, .slice none 0 0] 41)) w.heap.size next con hs2)
        have HX7 := Lib.hid (HX6.out.after (below_more (Below.refl _ _) (.cells #[.int .i64 next, .string con, .int .i64 0, .string ⟨#[]⟩, .slice none 0 0, .slice none 0 0, .slice none 0 0] 41)))
        have hlw : l.length = n := HLn.out
        subst hlw
        go_upto_region 13 with (at_builtin; go_must (refine wpList_app _ rfl (.tmp 50) (.tmp 55) _ rfl w.heap.size 41 i0 _ 7 120 Tryz.underlying24 hi0 hz0 hz1 hz2 rfl (by omega) (.slice (some ⟨g, 0, none⟩) l.length l.length) l.length (allCells l) rfl HX7.out.own.own X6.heap.size (X6.heap.size + 1) (some ⟨X6.heap.size, 0, none⟩) 1 1 (ndCells (newNd next con, ⟨⟨none, 0, 0⟩, ⟨none, 0, 0⟩, ⟨none, 0, 0⟩⟩)) rfl (row_blk (n := 1) (Blk.new' rfl) rfl (Nat.le_refl _) (by unfold maxLen; omega)) (by simp [ndCells, Value.oneCell']) (by unfold maxLen; omega) (by omega) HX7.out.ab.bel.size ?_); go_must (intro v7 w7 hown7 hg7 _; obtain ⟨G7, cap7, rfl, hca7, hcb7⟩ := own_slice hown7; have ab7 := HX7.out.ab.kept HX7.out.own.own hg7; have out7 := HX7.out.out.grown hg7 (Ne.symm (own_blk_ne HX7.out.own.own HX7.out.out (by decide))); have ow7 := HX7.out.own.push hg7 hown7 HLf.out; have h8 := ao_set ab7 out7 HX7.out.le HX7.out.n1 HX7.out.n2 1 (.slice (some ⟨G7, 0, none⟩) (l.length + 1) cap7) (nx' := next) (v' := .slice (some ⟨G7, 0, none⟩) (l.length + 1) cap7) (by simp) ow7; have o70 := out7.cell 0; have o71 := out7.cell 1; have o72 := out7.frozen 1; have o73 := out7.frozen 0; simp at o70 o71; have e80 := h8.out.cell 0; simp at e80; have h9 := ao_set h8.ab h8.out h8.le h8.n1 h8.n2 0 (.int .i64 (next + 1)) (nx' := next + 1) (v' := .slice (some ⟨G7, 0, none⟩) (l.length + 1) cap7) (by simp) h8.own; have e90 := h9.out.cell 0; have e91 := h9.out.cell 1; have e92 := h9.ab.m.cell 0; have e93 := h9.ab.s.cell 0; have e94 := h9.ab.s.cell 1; have e95 := h9.ab.s.cell 2; simp at e90 e91 e92 e93 e94 e95; have HX9 := Lib.hid h9; clear ab7 out7 ow7 h8 h9 hown7 hg7))
        generalize (w7.setCell ⟨go, 1, none⟩ (.slice (some ⟨G7, 0, none⟩) (l.length + 1) cap7)).setCell ⟨go, 0, none⟩ (.int .i64 (next + 1)) = X9 at HX9 e90 e91 e92 e93 e94 e95 ⊢
        have HPut : Hid (Calls Tryz.prog 47 #[.agg #[.int .i64 (next + 1), .slice (some ⟨G7, 0, none⟩) (l.length + 1) cap7], .int .i64 next, .agg #[.int .i64 parent, .string role, .int .i64 at_], .int .i64 ri] X9 (PutPost X9 w.heap.size G7 (l.length + 1) cap7 (addL next nds parent role con ri.toNat))) := Lib.hid (by
          have hnl := HLN.out
          have hll : (l ++ [(newNd next con, (⟨⟨none, 0, 0⟩, ⟨none, 0, 0⟩, ⟨none, 0, 0⟩⟩ : Leaf))]).length = l.length + 1 := by simp
          have hget : (l ++ [(newNd next con, (⟨⟨none, 0, 0⟩, ⟨none, 0, 0⟩, ⟨none, 0, 0⟩⟩ : Leaf))])[l.length]? = some (newNd next con, ⟨⟨none, 0, 0⟩, ⟨none, 0, 0⟩, ⟨none, 0, 0⟩⟩) := by simp
          have hmap : (l ++ [(newNd next con, (⟨⟨none, 0, 0⟩, ⟨none, 0, 0⟩, ⟨none, 0, 0⟩⟩ : Leaf))]).map (·.1) = nds ++ [newNd next con] := by rw [List.map_append, HL4.out]; rfl
          have hrise : Rise (nds ++ [newNd next con]) := rise_more HRM.out.rise HRM.out.lo HRM.out.lt
          by_cases hp0 : parent = 0
          · refine put_any X9 w.heap.size (next + 1) next ri parent at_ role G7 (l.length + 1) cap7 _ HX9.out.own hll (by omega) (by rw [hmap]; exact hrise) l.length _ hget rfl hs 0 0 (newNd next con) ⟨⟨none, 0, 0⟩, ⟨none, 0, 0⟩, ⟨none, 0, 0⟩⟩ (fun h => absurd hp0 h) _ ?_
            rw [if_pos hp0, hmap]
            unfold addL
            rw [if_pos hp0, hnl]
          · obtain ⟨x, jj, a, q1, q2, q3, q4, q5, q6, q7, q8⟩ := HP.out hp0
            have hj : jj < l.length := by rw [← hnl]; exact (List.getElem?_eq_some_iff.1 q3).1
            obtain ⟨M, hM⟩ : ∃ M, l[jj]? = some (x, M) := by
              have h1 : (l.map (·.1))[jj]? = some x := by rw [HL4.out]; exact q3
              rw [List.getElem?_map] at h1
              obtain ⟨⟨x', M⟩, h2, h3⟩ := Option.map_eq_some_iff.1 h1
              simp only at h3
              subst h3
              exact ⟨M, h2⟩
            refine put_any X9 w.heap.size (next + 1) next ri parent at_ role G7 (l.length + 1) cap7 _ HX9.out.own hll (by omega) (by rw [hmap]; exact hrise) l.length _ hget rfl hs jj a x M (fun _ => ⟨by rw [List.getElem?_append_left hj]; exact hM, q4, by omega, q6, q7.kl, q5⟩) _ ?_
            rw [if_neg hp0, hmap]
            unfold addL
            rw [if_neg hp0, hnl, q1, q2, q5, Int.toNat_natCast]
            rfl)
        go_upto_region 14 with (go_at_call 47; go_must (refine HPut.out.mono ?_; rintro e w10 ⟨rfl, l', ho10, hg10, hm10⟩; have ab10 := HX9.out.ab.kept HX9.out.own.own hg10; have out10 := HX9.out.out.grown hg10 (Ne.symm (own_blk_ne HX9.out.own.own HX9.out.out (by decide))); have HB10 := Lib.hid ab10; have HO10 := Lib.hid out10; have HN10 := Lib.hid ho10; have HM10 := Lib.hid hm10; clear ab10 out10 ho10 hg10 hm10))
        have t0 := HB10.out.r.cell 0
        have t1 := HB10.out.r.cell 1
        have t2 := HB10.out.r.frozen 0
        have t3 := HB10.out.r.frozen 1
        have t4 := HB10.out.m.cell 0
        have t5 := HO10.out.cell 0
        have t6 := HO10.out.cell 1
        simp at t0 t1 t4 t5 t6
        refine wp_region_held_tail 4 (fun X => X.cell? ⟨go, 0, none⟩ = some (.int .i64 (next + 1)) ∧ X.cell? ⟨go, 1, none⟩ = some (.slice (some ⟨G7, 0, none⟩) (l.length + 1) cap7) ∧ X.cell? ⟨w.heap.size, 0, none⟩ = some (.int .i64 next)) (by kernel_rfl) (by kernel_rfl) ?hSz (fun hHeld => ?qz0)
        case hSz => exact ⟨t5, t6, t4⟩
        case qz0 =>
          simp only [List.take_succ_cons, List.take_zero, List.drop_succ_cons, List.drop_zero]
          refine wpAnyH_take (i := 0) (v := (.agg #[.int .i64 (next + 1), .slice (some ⟨G7, 0, none⟩) (l.length + 1) cap7])) rfl (by kernel_rfl) (by kernel_rfl) (by kernel_rfl) (fun _ _ _ h => h) (Or.inl ⟨by rfl, ?yz_1⟩) (by assumption) ?qz_1
          case yz_1 => (intro w hSw; (try dsimp only at hSw); go_simp)
          case qz_1 =>
            (try simp only [Act.put]); (try simp only [List.setIfInBounds_toArray])
            refine wpAnyH_take (i := 1) (v := (.pointer (some ⟨w.heap.size, 0, none⟩))) rfl (by kernel_rfl) (by kernel_rfl) (by kernel_rfl) (fun _ _ _ h => h) (Or.inl ⟨by rfl, ?yz_2⟩) (by assumption) ?qz_2
            case yz_2 => (intro w hSw; (try dsimp only at hSw); go_simp)
            case qz_2 =>
              (try simp only [Act.put]); (try simp only [List.setIfInBounds_toArray])
              refine wpAnyH_take (i := 2) (v := (.int .i64 next)) rfl (by kernel_rfl) (by kernel_rfl) (by kernel_rfl) (fun _ _ _ h => h) (Or.inl ⟨by rfl, ?yz_3⟩) (by assumption) ?qz_3
              case yz_3 => (intro w hSw; (try dsimp only at hSw); go_simp)
              case qz_3 =>
                (try simp only [Act.put]); (try simp only [List.setIfInBounds_toArray])
                refine wpAnyH_ready (rs := [3]) (by kernel_rfl) (by simp) ?_
                refine AllReadyH.cons rfl (fun K hK => ?sz_4) ?mz_4
                case sz_4 =>
                  (go_simp; have HSz : Hid (Blk ((w10.drew.setCell ⟨w.heap.size + 1, 0, none⟩ (.int .i64 (next + 1))).setCell ⟨w.heap.size + 1, 1, none⟩ (.slice (some ⟨G7, 0, none⟩) (l.length + 1) cap7)) go 26 #[.int .i64 (next + 1), .slice (some ⟨G7, 0, none⟩) (l.length + 1) cap7] ∧ Blk ((w10.drew.setCell ⟨w.heap.size + 1, 0, none⟩ (.int .i64 (next + 1))).setCell ⟨w.heap.size + 1, 1, none⟩ (.slice (some ⟨G7, 0, none⟩) (l.length + 1) cap7)) w.heap.size 26 #[.int .i64 next, .slice A l.length c]) := Lib.hid ⟨((show Blk w10.drew go _ _ from HO10.out).far (p := ⟨w.heap.size + 1, 0, none⟩) (Ne.symm HX9.out.n2) _).far (p := ⟨w.heap.size + 1, 1, none⟩) (Ne.symm HX9.out.n2) _, ((show Blk w10.drew w.heap.size _ _ from HB10.out.m).far (p := ⟨w.heap.size + 1, 0, none⟩) (by simp) _).far (p := ⟨w.heap.size + 1, 1, none⟩) (by simp) _⟩)
                  refine hK.out _ _ ?kz_4 (fun hHeld => ?qz_4)
                  case kz_4 => ((try dsimp only); exact ⟨(HSz.out.1.cell 0).trans rfl, (HSz.out.1.cell 1).trans rfl, (HSz.out.2.cell 0).trans rfl⟩)
                  case qz_4 =>
                    clear hK K
                    (try simp only [Act.put]); (try simp only [List.setIfInBounds_toArray])
                    refine wpAnyH_done (by kernel_rfl) ?_ _
                    show wpList _ _ _ _ _ _
                    go_wp2_with fail
                    (try rw [Exit.noGoto_ret])
                    (try simp only [Exit.inBlock, Exit.then])
                    refine bodyPost_ret (v := .tuple #[.agg #[.int .i64 (next + 1), .slice (some ⟨G7, 0, none⟩) (l.length + 1) cap7], .int .i64 next, .int .i64 0]) ?hr rfl ?_
                    case hr =>
                      simp only [results, hres]
                      go_simp
                    have hr10 : Blk w10.drew (w.heap.size + 1) 26 #[.int .i64 0, .slice none 0 0] := HB10.out.r
                    have ho10 : OwnM w10.drew w.heap.size (.slice (some ⟨G7, 0, none⟩) (l.length + 1) cap7) l' := HN10.out.after (below_drew (Below.refl _ _))
                    refine ⟨((below_drew HB10.out.bel).setCell (p := ⟨w.heap.size + 1, 0, none⟩) (by simp) _).setCell (p := ⟨w.heap.size + 1, 1, none⟩) (by simp) _, .inr ⟨HE.out, some ⟨G7, 0, none⟩, cap7, l', by rw [HLN.out], ?_, by rw [HM10.out, HR1.out]⟩⟩
                    rw [HLN.out]
                    exact (ho10.other hr10 0 _).other (hr10.set_ 0 _) 1 _
                case mz_4 =>
                  exact AllReadyH.nil
      · have HE : Hid (addE next nds parent role at_ con = re) := Lib.hid hEE
        have HZ := Lib.hid hz
        have d9 : (re != 0) = true := by rw [bne_iff_ne]; exact hz
        clear h hf hrm hwd hw2 hEE hrr hz
        go_enter Tryz.func18, Tryz.ntmps18
        go_upto_region 5 with (go_at_call 12; go_must (refine (HCk.out _ HA0.out.bel).mono ?_; rintro e w1 ⟨rfl, hb1⟩; have ha1 := HA0.out.after hb1; have r0 := ha1.r.cell 0; have r1 := ha1.r.cell 1; have r2 := ha1.r.frozen 0; have r3 := ha1.r.frozen 1; have m0 := ha1.m.cell 0; have m1 := ha1.m.cell 1; have m2 := ha1.m.frozen 0; simp at r0 r1 m0 m1; have HA1 := Lib.hid ha1; clear ha1 hb1))
        have HB := Lib.hid (HA1.out.spot parent role at_)
        generalize w1.alloc (.cells #[.int .i64 parent, .string role, .int .i64 at_] 78) = X5 at HB ⊢
        generalize w1.heap.size = gs at HB ⊢
        have b0 := HB.out.r.cell 0
        have b1 := HB.out.r.cell 1
        have b2 := HB.out.r.frozen 0
        have b3 := HB.out.r.frozen 1
        have b4 := HB.out.s.cell 0
        have b5 := HB.out.s.cell 1
        have b6 := HB.out.s.cell 2
        have b7 := HB.out.m.cell 0
        have b8 := HB.out.m.cell 1
        simp at b0 b1 b4 b5 b6 b7 b8
        go_wp2_with (first | (go_at_call 43; go_must (refine (HW.out _).mono ?_; rintro e w2 ⟨rfl, rfl⟩)) | (go_at_call 44; go_must (refine (HNm.out _).mono ?_; rintro e w2 ⟨rfl, hb2⟩; have hb2' := HB.out.after hb2; have p0 := hb2'.r.cell 0; have p1 := hb2'.r.cell 1; have p2 := hb2'.r.frozen 0; have p3 := hb2'.r.frozen 1; have p4 := hb2'.m.cell 0; have p5 := hb2'.m.cell 1; have p6 := hb2'.m.frozen 0; simp at p0 p1 p4 p5; have p7 := hb2'.s.cell 0; have p8 := hb2'.s.cell 1; have p9 := hb2'.s.cell 2; simp at p7 p8 p9; have HB2 := Lib.hid hb2'; clear hb2 hb2')) | (go_at_call 45; go_must (refine (HAd.out _ HB2.out.bel).mono ?_; rintro e w3 ⟨rfl, hb3⟩; have hb3' := HB2.out.after hb3; have q0 := hb3'.r.cell 0; have q1 := hb3'.r.cell 1; have q2 := hb3'.r.frozen 0; have q3 := hb3'.r.frozen 1; have q4 := hb3'.m.cell 0; have q5 := hb3'.m.cell 1; have q6 := hb3'.m.frozen 0; simp at q0 q1 q4 q5; have q7 := hb3'.s.cell 0; have q8 := hb3'.s.cell 1; have q9 := hb3'.s.cell 2; simp at q7 q8 q9; have HB3 := Lib.hid hb3'; clear hb3 hb3')))
        (try rw [Exit.noGoto_ret])
        (try simp only [Exit.inBlock, Exit.then])
        refine bodyPost_ret (v := .tuple #[.agg #[.int .i64 0, .slice none 0 0], .int .i64 0, .int .i64 re]) ?hr rfl ?_
        case hr =>
          simp only [results, hres]
          go_simp
        exact ⟨(HB3.out.bel.setCell (p := ⟨w.heap.size + 1, 0, none⟩) (by simp) _).setCell (p := ⟨w.heap.size + 1, 1, none⟩) (by simp) _, .inl ⟨by rw [HE.out]; exact HZ.out, by rw [HE.out]⟩⟩
end Go.Proofs.YtbkmdlfenbfdlaaGreat

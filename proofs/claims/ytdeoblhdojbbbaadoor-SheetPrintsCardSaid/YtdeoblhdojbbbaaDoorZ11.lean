/-
  PLAIN MATHEMATICS: document order.
  PLAIN LISTS AND NUMBERS for layer 1: hex digits, the forms of bytes. No program stands in it.
  A MODEL's TEXT in plain mathematics: its lines; a page that takes no more once it is too long.
  WALKS over package names: numbered, digit. What each call answers.
  BYTES IN A SLICE OF THE CALL's OWN: append of bytes, append of a string, a string made of them: each as the walk takes it.
-/
import Derived.Test.YtdeoblhdojbbbaaDoorZ10
import Derived.Lib.Bytealg
import Derived.Lib.Hide
import Derived.Lib.ItoaLen
import Derived.Test.YtdeoblhdojbbbaaDoorRows
import Derived.Test.YtdeoblhdojbbbaaDoorShelf
import Derived.WalkKit
import Derived.WalkSpells
import Derived.WalkLawsBesides
import Derived.Lib.AppendStr
import Derived.Deep.RegionLaw
import Derived.RegionTactic
import Derived.BigRegion
import Derived.Deep.QuietTactic
import Derived.BigQuiet
import Derived.Lib.BufferRead
namespace Go.Proofs.YtdeoblhdojbbbaaDoor
open Go Go.RowKit
set_option linter.unusedVariables false
def kidsV (nds : List Nd) (x : Int) : List Int := match ndOf nds x with
  | some nd => nd.kids
  | none => []
theorem kidsV_of {nds : List Nd} {x : Int} {nd : Nd} (h : ndOf nds x = some nd) : kidsV nds x = nd.kids := by unfold kidsV; rw [h]
/-- nodes with all that is below them, in document order, each with how deep it stands -/
def pre (nds : List Nd) : Nat → Nat → List Int → List (Int × Nat)
  | 0, _, _ => []
  | f + 1, d, ids => ids.flatMap fun x => (x, d) :: pre nds f (d + 1) (kidsV nds x)
theorem pre_nil (nds : List Nd) (f d : Nat) : pre nds f d [] = [] := by cases f <;> simp [pre]
theorem pre_cons (nds : List Nd) (f d : Nat) (x : Int) (r : List Int) : pre nds (f + 1) d (x :: r) = ((x, d) :: pre nds f (d + 1) (kidsV nds x)) ++ pre nds (f + 1) d r := by
  simp only [pre, List.flatMap_cons]
theorem pre_append (nds : List Nd) (f d : Nat) (a b : List Int) : pre nds f d (a ++ b) = pre nds f d a ++ pre nds f d b := by
  cases f <;> simp [pre]
/-- all of them are nodes that stand so deep -/
def AtD (nds : List Nd) (D : Nat) (ids : List Int) : Prop := ∀ x ∈ ids, (∃ nd, ndOf nds x = some nd) ∧ depthV nds x = D
section
variable {next : Int} {nds : List Nd}
theorem kid_depth (hr : RightM next nds) {x k : Int} {nd : Nd} (hx : ndOf nds x = some nd) (hk : k ∈ nd.kids) : ∃ y, ndOf nds k = some y ∧ y.par = x ∧ depthV nds k = depthV nds x + 1 := by
  obtain ⟨i, _, hi, he⟩ := ndOf_some hx
  obtain ⟨y, hy, hp⟩ := (hr.kids (List.mem_of_getElem? hi)).1 k hk
  rw [he] at hp
  obtain ⟨j, _, hj, hje⟩ := ndOf_some hy
  have h0 : k ≠ 0 := by have := hr.rise.pos j y hj; omega
  have h1 := (show DepthIs nds y.par (depthV nds x) from by rw [hp]; exact (hr.depth hx).1).succ hy h0
  exact ⟨y, hy, hp, (hr.depth hy).1.eq h1⟩
theorem AtD.kids (hr : RightM next nds) {D : Nat} {x : Int} (h : (∃ nd, ndOf nds x = some nd) ∧ depthV nds x = D) : AtD nds (D + 1) (kidsV nds x) := by
  obtain ⟨⟨nd, hx⟩, hd⟩ := h
  rw [kidsV_of hx]
  intro k hk
  obtain ⟨y, h1, _, h2⟩ := kid_depth hr hx hk
  exact ⟨⟨y, h1⟩, by omega⟩
theorem AtD.le (hr : RightM next nds) {D : Nat} {ids : List Int} (h : AtD nds D ids) (h0 : 65 ≤ D) : ids = [] := by
  cases ids with
  | nil => rfl
  | cons x r =>
    obtain ⟨⟨nd, hx⟩, hd⟩ := h x (by simp)
    have := (hr.depth hx).2.2
    omega
theorem pre_mem (hr : RightM next nds) : ∀ (f d D : Nat) (ids : List Int), AtD nds D ids → ∀ p ∈ pre nds f d ids, (∃ nd, ndOf nds p.1 = some nd) ∧ d ≤ p.2 ∧ depthV nds p.1 + d = D + p.2 ∧ upI nds p.1 (p.2 - d) ∈ ids
  | 0, d, D, ids, h, p, hp => by simp [pre] at hp
  | f + 1, d, D, ids, h, p, hp => by
    simp only [pre, List.mem_flatMap, List.mem_cons] at hp
    obtain ⟨x, hx, rfl | hp⟩ := hp
    · exact ⟨(h x hx).1, Nat.le_refl _, by have := (h x hx).2; simp only; omega, by rw [show (x, d).2 - d = 0 from by simp, upI]; exact hx⟩
    · obtain ⟨h1, h2, h3, h4⟩ := pre_mem hr f (d + 1) (D + 1) _ (AtD.kids hr (h x hx)) p hp
      refine ⟨h1, by omega, by omega, ?_⟩
      obtain ⟨nd, hnd⟩ := (h x hx).1
      rw [kidsV_of hnd] at h4
      obtain ⟨y, hy, hyp, _⟩ := kid_depth hr hnd h4
      rw [show p.2 - d = (p.2 - (d + 1)) + 1 from by omega, upI_succ hy, hyp]
      exact hx
theorem pre_nodup (hr : RightM next nds) : ∀ (f d D : Nat) (ids : List Int), ids.Nodup → AtD nds D ids → ((pre nds f d ids).map (·.1)).Nodup
  | 0, d, D, ids, _, _ => by simp [pre]
  | f + 1, d, D, [], _, _ => by rw [pre_nil]; simp
  | f + 1, d, D, x :: r, hn, h => by
    have hx := h x (by simp)
    have hrD : AtD nds D r := fun y hy => h y (by simp [hy])
    rw [pre_cons, List.map_append, List.nodup_append]
    refine ⟨?_, pre_nodup hr (f + 1) d D r (List.nodup_cons.1 hn).2 hrD, ?_⟩
    · rw [List.map_cons, List.nodup_cons]
      refine ⟨?_, ?_⟩
      · intro hm
        obtain ⟨p, hp, he⟩ := List.mem_map.1 hm
        obtain ⟨_, h2, h3, _⟩ := pre_mem hr f (d + 1) (D + 1) _ (AtD.kids hr hx) p hp
        have h4 := hx.2
        rw [he] at h3
        simp only at h3
        omega
      · obtain ⟨nd, hnd⟩ := hx.1
        refine pre_nodup hr f (d + 1) (D + 1) _ ?_ (AtD.kids hr hx)
        rw [kidsV_of hnd]
        obtain ⟨i, _, hi, _⟩ := ndOf_some hnd
        exact (hr.kids (List.mem_of_getElem? hi)).2
    · intro a ha b hb hab
      obtain ⟨p, hp, rfl⟩ := List.mem_map.1 ha
      obtain ⟨q, hq, rfl⟩ := List.mem_map.1 hb
      have hp' : p ∈ pre nds (f + 1) d [x] := by rw [pre_cons, pre_nil, List.append_nil]; exact hp
      obtain ⟨_, p2, p3, p4⟩ := pre_mem hr (f + 1) d D [x] (fun y hy => by rw [List.mem_singleton.1 hy]; exact hx) p hp'
      obtain ⟨_, q2, q3, q4⟩ := pre_mem hr (f + 1) d D r hrD q hq
      rw [← hab] at q3 q4
      have e : q.2 = p.2 := by omega
      rw [e, List.mem_singleton.1 p4] at q4
      exact (List.nodup_cons.1 hn).1 q4
termination_by f _ _ ids => (f, ids.length)
theorem pre_len (hr : RightM next nds) {f d D : Nat} {ids : List Int} (hn : ids.Nodup) (h : AtD nds D ids) : (pre nds f d ids).length ≤ nds.length := by
  have h1 := nodup_le (m := nds.map (·.id)) (pre_nodup hr f d D ids hn h) (fun x hx => by
    obtain ⟨p, hp, rfl⟩ := List.mem_map.1 hx
    obtain ⟨nd, hnd⟩ := (pre_mem hr f d D ids h p hp).1
    obtain ⟨i, _, hi, he⟩ := ndOf_some hnd
    exact List.mem_map.2 ⟨nd, List.mem_of_getElem? hi, he⟩)
  rwa [List.length_map, List.length_map] at h1
/-- the same without how deep they stand -/
def pl (nds : List Nd) : Nat → List Int → List Int
  | 0, _ => []
  | f + 1, ids => ids.flatMap fun x => x :: pl nds f (kidsV nds x)
theorem pre_pl : ∀ (f d : Nat) (ids : List Int), (pre nds f d ids).map (·.1) = pl nds f ids
  | 0, d, ids => rfl
  | f + 1, d, ids => by
    simp only [pre, pl, List.map_flatMap, List.map_cons]
    congr 1
    funext x
    rw [pre_pl f]
/-- a node and all below it, in document order -/
def preI (nds : List Nd) (x : Int) : List Int := pl nds (65 - depthV nds x) [x]
theorem depthV_le (nds : List Nd) (x : Int) : depthV nds x ≤ 64 := by
  unfold depthV
  cases h : (List.range 65).find? (fun k => upI nds x k == 0) with
  | none => simp
  | some k =>
    have := List.mem_of_find?_eq_some h
    simp at this ⊢
    omega
theorem preI_cons (nds : List Nd) (x : Int) : ∃ r, preI nds x = x :: r := by
  unfold preI
  have := depthV_le nds x
  rw [show 65 - depthV nds x = (64 - depthV nds x) + 1 from by omega]
  exact ⟨pl nds (64 - depthV nds x) (kidsV nds x), by simp [pl]⟩
theorem pl_flat (hr : RightM next nds) : ∀ (f D : Nat) (ids : List Int), f + D = 65 → AtD nds D ids → pl nds f ids = ids.flatMap (preI nds)
  | 0, D, ids, he, h => by rw [h.le hr (by omega)]; rfl
  | f + 1, D, ids, he, h => by
    rw [pl]
    have : ∀ x ∈ ids, (x :: pl nds f (kidsV nds x)) = preI nds x := fun x hx => by
      unfold preI
      rw [(h x hx).2, show 65 - D = f + 1 from by omega]
      simp [pl]
    clear he h
    induction ids with
    | nil => rfl
    | cons y r ih =>
      rw [List.flatMap_cons, List.flatMap_cons, this y (by simp), ih fun x hx => this x (by simp [hx])]
theorem preI_eq (hr : RightM next nds) {x : Int} {nd : Nd} (hx : ndOf nds x = some nd) : preI nds x = x :: nd.kids.flatMap (preI nds) := by
  have hd := hr.depth hx
  have hk := AtD.kids hr (x := x) ⟨⟨nd, hx⟩, rfl⟩
  rw [kidsV_of hx] at hk
  rw [← pl_flat hr (64 - depthV nds x) _ nd.kids (by omega) hk]
  unfold preI
  rw [show 65 - depthV nds x = (64 - depthV nds x) + 1 from by omega]
  simp [pl, kidsV_of hx]
theorem preI_pre (hr : RightM next nds) {x : Int} {nd : Nd} (hx : ndOf nds x = some nd) : AtD nds (depthV nds x) [x] := fun y hy => by
  rw [List.mem_singleton.1 hy]; exact ⟨⟨nd, hx⟩, rfl⟩
theorem preI_nodup (hr : RightM next nds) {x : Int} {nd : Nd} (hx : ndOf nds x = some nd) : (preI nds x).Nodup := by
  unfold preI
  rw [← pre_pl _ 0]
  exact pre_nodup hr _ _ _ _ (by simp) (preI_pre hr hx)
theorem preI_mem (hr : RightM next nds) {x y : Int} {nd : Nd} (hx : ndOf nds x = some nd) (hy : y ∈ preI nds x) : ∃ nd', ndOf nds y = some nd' := by
  unfold preI at hy
  rw [← pre_pl _ 0] at hy
  obtain ⟨p, hp, rfl⟩ := List.mem_map.1 hy
  exact (pre_mem hr _ _ _ _ (preI_pre hr hx) p hp).1
theorem preI_len (hr : RightM next nds) {x : Int} {nd : Nd} (hx : ndOf nds x = some nd) : (preI nds x).length ≤ nds.length := by
  unfold preI
  rw [← pre_pl _ 0, List.length_map]
  exact pre_len hr (by simp) (preI_pre hr hx)
theorem preI_rest (hr : RightM next nds) {x : Int} {nd : Nd} (hx : ndOf nds x = some nd) : (preI nds x).filter (fun y => y != x) = nd.kids.flatMap (preI nds) := by
  have h1 := preI_nodup hr hx
  rw [preI_eq hr hx] at h1 ⊢
  rw [List.filter_cons_of_neg (by simp)]
  rw [List.filter_eq_self]
  intro y hy
  rw [bne_iff_ne]
  rintro rfl
  exact (List.nodup_cons.1 h1).1 hy
/-- the roots -/
def rootsV (nds : List Nd) : List Int := (nds.filter (fun nd => nd.par == 0)).map (·.id)
theorem roots_at (hr : RightM next nds) : AtD nds 1 (rootsV nds) := by
  intro x hx
  obtain ⟨nd, hnd, rfl⟩ := List.mem_map.1 hx
  obtain ⟨h1, h2⟩ := List.mem_filter.1 hnd
  obtain ⟨i, hi⟩ := List.getElem?_of_mem h1
  have hnd := ndOf_is hr.rise hi
  have h0 : nd.id ≠ 0 := by have := hr.rise.pos i nd hi; omega
  have h3 := (show DepthIs nds nd.par 0 from by rw [show nd.par = 0 from by simpa using h2]; exact depth_zero nds).succ hnd h0
  exact ⟨⟨nd, hnd⟩, (hr.depth hnd).1.eq h3⟩
theorem ids_nodup (hr : Rise nds) : (nds.map (·.id)).Nodup := by
  rw [List.nodup_iff_pairwise_ne, List.pairwise_iff_getElem]
  intro i j hi hj hij e
  rw [List.getElem_map, List.getElem_map] at e
  rw [List.length_map] at hi hj
  have := hr.inj (List.getElem?_eq_getElem hi) (List.getElem?_eq_getElem hj) e
  omega
theorem roots_nodup (hr : Rise nds) : (rootsV nds).Nodup := by
  unfold rootsV
  exact List.Sublist.nodup (List.Sublist.map _ List.filter_sublist) (ids_nodup hr)
/-- document order -/
def orderV (nds : List Nd) : List Int := (rootsV nds).flatMap (preI nds)
theorem order_pre (hr : RightM next nds) : (pre nds 64 1 (rootsV nds)).map (·.1) = orderV nds := by
  rw [pre_pl, pl_flat hr 64 1 _ (by omega) (roots_at hr)]
  rfl
theorem order_len (hr : RightM next nds) : (orderV nds).length ≤ nds.length := by
  rw [← order_pre hr, List.length_map]
  exact pre_len hr (roots_nodup hr.rise) (roots_at hr)
theorem order_mem (hr : RightM next nds) {y : Int} (hy : y ∈ orderV nds) : ∃ nd, ndOf nds y = some nd := by
  rw [← order_pre hr] at hy
  obtain ⟨p, hp, rfl⟩ := List.mem_map.1 hy
  exact (pre_mem hr _ _ _ _ (roots_at hr) p hp).1
/-- what is below a node -/
def belowV (nds : List Nd) (x : Int) : List Int := (kidsV nds x).flatMap (preI nds)
end
end Go.Proofs.YtdeoblhdojbbbaaDoor
namespace Go.Proofs.YtdeoblhdojbbbaaDoor
open Go
set_option linter.unusedVariables false
def hexes : List UInt8 := [48, 49, 50, 51, 52, 53, 54, 55, 56, 57, 97, 98, 99, 100, 101, 102]
/-- is a byte's form by its number? -/
def numBQ (n : Int) : Bool := (decide (n < 32) || decide (126 < n)) && n != 10
/-- a hex digit's byte -/
def hexOf (n : Nat) : UInt8 := hexes.getD n 0
/-- a byte's form -/
def form (c : UInt8) : List UInt8 :=
  if c.toNat = 34 ∨ c.toNat = 92 then [92, c]
  else if c.toNat = 10 then [92, 110]
  else if numBQ (c.toNat : Int) then [92, 120, hexOf (c.toNat / 16), hexOf (c.toNat % 16)]
  else [c]
/-- a text in quotes -/
def quote (l : List UInt8) : List UInt8 := 34 :: l.flatMap form ++ [34]
theorem form_length (c : UInt8) : 1 ≤ (form c).length ∧ (form c).length ≤ 4 := by
  unfold form
  split
  · simp
  · split
    · simp
    · split <;> simp
theorem all256 {P : UInt8 → Prop} (h : ∀ n : Fin 256, P (UInt8.ofNat n.val)) (c : UInt8) : P c := by
  have := h ⟨c.toNat, c.toNat_lt⟩
  simpa using this
end Go.Proofs.YtdeoblhdojbbbaaDoor
namespace Go.Proofs.YtdeoblhdojbbbaaDoor
open Go Go.RowKit
set_option linter.unusedVariables false
def bl (k : Nat) : List UInt8 := List.replicate k 32
theorem bl_len (k : Nat) : (bl k).length = k := List.length_replicate
theorem bl_succ (k : Nat) : bl (k + 1) = bl k ++ [32] := List.replicate_succ'
/-- the lines of a node that stands so deep -/
def lineN (nd : Nd) (deep : Nat) : List UInt8 := bl (deep - 1) ++ (Lib.itoa nd.id ++ 32 :: ((if nd.par = 0 then [] else nd.role.data.toList ++ [32]) ++ nd.con.data.toList)) ++ [10]
def lineP (p : ByteArray × ByteArray) (deep : Nat) : List UInt8 := bl deep ++ (46 :: (p.1.data.toList ++ 61 :: quote p.2.data.toList)) ++ [10]
def lineR (r : ByteArray × Int) (deep : Nat) : List UInt8 := bl deep ++ (62 :: (r.1.data.toList ++ 61 :: Lib.itoa r.2)) ++ [10]
def nodeL (nd : Nd) (deep : Nat) : List (List UInt8) := lineN nd deep :: (nd.props.map (lineP · deep) ++ nd.refs.map (lineR · deep))
def headL (next : Int) : List UInt8 := [110, 101, 120, 116, 32] ++ Lib.itoa next ++ [10]
/-- a line more, unless the page is too long already -/
def pageA (L ln : List UInt8) : List UInt8 := if 1048576 < L.length then L else L ++ ln
def pageV (L : List UInt8) (ls : List (List UInt8)) : List UInt8 := ls.foldl pageA L
theorem pageV_nil (L : List UInt8) : pageV L [] = L := rfl
theorem pageV_cons (L l : List UInt8) (ls : List (List UInt8)) : pageV L (l :: ls) = pageV (pageA L l) ls := rfl
theorem pageV_append (L : List UInt8) (a b : List (List UInt8)) : pageV L (a ++ b) = pageV (pageV L a) b := List.foldl_append
theorem pageV_stuck : ∀ (ls : List (List UInt8)) (L : List UInt8), 1048576 < L.length → pageV L ls = L
  | [], _, _ => rfl
  | l :: ls, L, h => by rw [pageV_cons, show pageA L l = L from by unfold pageA; rw [if_pos h]]; exact pageV_stuck ls L h
theorem pageV_short : ∀ (ls : List (List UInt8)) (L : List UInt8), (L ++ ls.flatten).length ≤ 1048576 → pageV L ls = L ++ ls.flatten
  | [], L, _ => by simp [pageV_nil]
  | l :: ls, L, h => by
    rw [List.flatten_cons, ← List.append_assoc] at h
    have h1 : ¬ 1048576 < L.length := by simp only [List.length_append] at h; omega
    rw [pageV_cons, show pageA L l = L ++ l from by unfold pageA; rw [if_neg h1], pageV_short ls _ h, List.flatten_cons, List.append_assoc]
theorem pageV_long : ∀ (ls : List (List UInt8)) (L : List UInt8), 1048576 < (L ++ ls.flatten).length → 1048576 < (pageV L ls).length
  | [], L, h => by simpa [pageV_nil] using h
  | l :: ls, L, h => by
    rw [pageV_cons]
    by_cases h1 : 1048576 < L.length
    · rw [show pageA L l = L from by unfold pageA; rw [if_pos h1], pageV_stuck ls L h1]; exact h1
    · rw [show pageA L l = L ++ l from by unfold pageA; rw [if_neg h1]]
      rw [List.flatten_cons, ← List.append_assoc] at h
      exact pageV_long ls _ h
/-- what is told of a text: it, or that it is too long -/
def toldV (T : List UInt8) : List UInt8 × Int := if 1048576 < T.length then ([], 3) else (T, 0)
theorem toldV_page (L : List UInt8) (ls : List (List UInt8)) : (if 1048576 < (pageV L ls).length then ([], 3) else (pageV L ls, 0)) = toldV (L ++ ls.flatten) := by
  unfold toldV
  by_cases h : 1048576 < (L ++ ls.flatten).length
  · rw [if_pos h, if_pos (pageV_long ls L h)]
  · rw [if_neg h, pageV_short ls L (by omega), if_neg h]
/-- a model's text, and the error -/
def nodeT (nds : List Nd) (p : Int × Nat) : List (List UInt8) := match ndOf nds p.1 with
  | some nd => nodeL nd p.2
  | none => []
def printV (next : Int) (nds : List Nd) : List UInt8 × Int :=
  if rightB next nds = true then toldV ((headL next :: (pre nds 64 1 (rootsV nds)).flatMap (nodeT nds)).flatten) else ([], 29)
end Go.Proofs.YtdeoblhdojbbbaaDoor
namespace Go.Proofs.YtdeoblhdojbbbaaDoor
open Go.RowKit
set_option linter.unusedVariables false
theorem ret_boolQ {a b : Bool} (h : a = b) : Ending.returned (.bool a) = .returned (.bool b) := by rw [h]
set_option maxHeartbeats 400000 in
theorem numbered_anyQ (n : Int) (w : World) :
    Calls Tryd.prog 60 #[.int .u8 n] w fun e w' => e = .returned (.bool (numBQ n)) ∧ w = w' := by
  go_enter Tryd.func60, Tryd.ntmps60
  go_wp2
  all_goals go_ret
  all_goals refine ⟨ret_boolQ ?_, rfl⟩
  all_goals (unfold numBQ; simp [*])
theorem numbered_yes (n : Int) (w : World) (h : numBQ n = true) :
    Calls Tryd.prog 60 #[.int .u8 n] w fun e w' => e = .returned (.bool true) ∧ w = w' := by
  rw [← h]; exact numbered_anyQ n w
theorem numbered_no (n : Int) (w : World) (h : numBQ n = false) :
    Calls Tryd.prog 60 #[.int .u8 n] w fun e w' => e = .returned (.bool false) ∧ w = w' := by
  rw [← h]; exact numbered_anyQ n w
end Go.Proofs.YtdeoblhdojbbbaaDoor
namespace Go.Proofs.YtdeoblhdojbbbaaDoor
open Go Go.RowKit
set_option linter.unusedVariables false
def enc (c : UInt8) : Value := .int .u8 (c.toNat : Int)
theorem enc_one (l : List UInt8) : ∀ u ∈ l.map enc, u.oneCell' = true := by
  intro u hu
  rw [List.mem_map] at hu
  obtain ⟨b, _, rfl⟩ := hu
  rfl
/-- the slice v of bytes holds l, in a block of the call's own (from B on), or is nil -/
def ownB (w : World) (B : Nat) (v : Value) (l : List UInt8) : Prop := w.ownsRow B 5 1 v l.length (l.map enc)
theorem byteInfo : (Tryd.prog.info? 5).map (fun i => (i.zero, i.size, i.bytes)) = some (some (.int .u8 0), 1, 1) := by kernel_rfl
theorem ownB.alloc {w : World} {B : Nat} {v : Value} {l : List UInt8} (h : ownB w B v l) (o : Obj) : ownB (w.alloc o) B v l := World.ownsRow.alloc h o
theorem ownB.nil (w : World) (B : Nat) : ownB w B (.slice none 0 0) [] := World.ownsRow_nil w B _ _
theorem ownB.below {w w' : World} {B : Nat} {v : Value} {l : List UInt8} (h : ownB w B v l) (hb : Below w.heap.size w w') : ownB w' B v l := by
  refine ⟨h.1, ?_⟩
  rcases h.2 with hn | ⟨g, cap, cur, rfl, hbg, hgg, rest⟩
  · exact .inl hn
  · refine .inr ⟨g, cap, cur, rfl, hbg, ?_, rest⟩
    rw [hb.block g (Array.getElem?_eq_some_iff.1 hgg).1]
    exact hgg
theorem ownB.grown {w w' : World} {B : Nat} {v : Value} {l : List UInt8} (h : ownB w B v l) (hB : B ≤ w.heap.size) (hg : w.grownBy w' v.ownBlock) : Below B w w' :=
  (Below.refl _ _).grown hg hB (fun k hk => (World.ownsRow.lt h k hk).1)
/-- append of bytes that lie in memory -/
theorem app_bytes {w : World} {ops : Array Oper} {rest : List Oper} {o : Oper} {a : Act} {Q : Exit → Act → World → Prop} (hgd : o.guard = none) (s x : Operand)
    (ho : o.op = .call { callee := .builtin .append, args := #[s, x], argTypes := #[40, 40] })
    (B : Nat) (v : Value) (l : List UInt8) (hs : a.eval s = v) (hown : ownB w B v l) (ad : Addr) (m c : Nat) (news : List UInt8) (hx : a.eval x = .slice (some ad) m c) (hl : news.length = m)
    (hnews : ∀ j u, (news.map enc)[j]? = some u → w.cell? (ad.add j) = some u) (hroom : l.length + m ≤ 140737488355328) (hB : B ≤ w.heap.size)
    (h : ∀ v' w', ownB w' B v' (l ++ news) → Below B w w' → wpList Tryd.prog ops Q rest (a.put o.dst v') w') : wpList Tryd.prog ops Q (o :: rest) a w := by
  obtain ⟨i0, hi, hz0, hz1, hz2⟩ := info_parts byteInfo
  refine wpList_append_own w hgd s x _ ho B 5 i0 (.int .u8 0) 1 1 Tryd.underlying40 hi hz0 hz1 hz2 rfl (by decide) v l.length (l.map enc) hs hown ad m c (news.map enc) hx (by simp [hl]) hnews (enc_one _) (by unfold maxLen; omega) (by omega) hB ?_
  intro v' w' hown' hg _
  refine h v' w' ?_ (ownB.grown hown hB hg)
  unfold ownB
  rw [List.length_append, List.map_append, hl]
  exact hown'
/-- the same, as a step of a region that draws its order -/
theorem step_app_bytes {w : World} {ops : Array Oper} {o : Oper} {a : Act} {K : Act → World → Prop} {Q : Exit → Act → World → Prop} {E : Prop} (hgd : o.guard = none) (s x : Operand)
    (ho : o.op = .call { callee := .builtin .append, args := #[s, x], argTypes := #[40, 40] })
    (B : Nat) (v : Value) (l : List UInt8) (hs : a.eval s = v) (hown : ownB w B v l) (ad : Addr) (m c : Nat) (news : List UInt8) (hx : a.eval x = .slice (some ad) m c) (hl : news.length = m)
    (hnews : ∀ j u, (news.map enc)[j]? = some u → w.cell? (ad.add j) = some u) (hroom : l.length + m ≤ 140737488355328) (hB : B ≤ w.heap.size)
    (h : ∀ v' w', ownB w' B v' (l ++ news) → Below B w w' → K (a.put o.dst v') w') : if Region.wanted o (yielded ops a.tmps) = true then Oper.wp Tryd.prog o a w K Q else E := by
  have hw : Region.wanted o (yielded ops a.tmps) = true := by simp [Region.wanted, hgd]
  rw [if_pos hw]
  obtain ⟨i0, hi, hz0, hz1, hz2⟩ := info_parts byteInfo
  refine wp_append_own w s x _ ho B 5 i0 (.int .u8 0) 1 1 Tryd.underlying40 hi hz0 hz1 hz2 rfl (by decide) v l.length (l.map enc) hs hown ad m c (news.map enc) hx (by simp [hl]) hnews (enc_one _) (by unfold maxLen; omega) (by omega) hB ?_
  intro v' w' hown' hg _
  refine h v' w' ?_ (ownB.grown hown hB hg)
  unfold ownB
  rw [List.length_append, List.map_append, hl]
  exact hown'
/-- append of a string's bytes -/
theorem app_str {w : World} {ops : Array Oper} {rest : List Oper} {o : Oper} {a : Act} {Q : Exit → Act → World → Prop} (hgd : o.guard = none) (s x : Operand)
    (ho : o.op = .call { callee := .builtin .append, args := #[s, x], argTypes := #[40, 9] })
    (B : Nat) (v : Value) (l : List UInt8) (hs : a.eval s = v) (hown : ownB w B v l) (t : ByteArray) (hx : a.eval x = .string t) (hroom : l.length + t.size ≤ 140737488355328) (hB : B ≤ w.heap.size)
    (h : ∀ v' w', ownB w' B v' (l ++ t.data.toList) → Below B w w' → wpList Tryd.prog ops Q rest (a.put o.dst v') w') : wpList Tryd.prog ops Q (o :: rest) a w := by
  obtain ⟨i0, hi, hz0, hz1, hz2⟩ := info_parts byteInfo
  refine Lib.wpList_append_own_string w hgd s x _ _ ho B 5 i0 Tryd.underlying40 Tryd.underlying9 hi hz0 hz1 hz2 v l.length (l.map enc) hs hown t hx (by unfold maxLen; omega) (by omega) hB ?_
  intro v' w' hown' hg _
  refine h v' w' ?_ (ownB.grown hown hB hg)
  unfold ownB
  rw [List.length_append, List.map_append, Array.length_toList]
  exact hown'
theorem fold_push (l : List UInt8) : ∀ r : ByteArray, (l.map fun c => (c.toNat : Int)).foldl (fun r n => r.push (UInt8.ofNat n.toNat)) r = ⟨r.data ++ l.toArray⟩ := by
  induction l with
  | nil => intro r; simp
  | cons c l ih =>
    intro r
    rw [List.map_cons, List.foldl_cons, ih]
    simp [ByteArray.push]
/-- string(b) of such a slice -/
theorem conv_own {w : World} {B : Nat} {v : Value} {l : List UInt8} (h : ownB w B v l) : (convert 40 9 v).run Tryd.prog w = .ok (.string ⟨l.toArray⟩) w := by
  rcases h.2 with ⟨rfl, h0⟩ | ⟨g, cap, cur, rfl, hbg, hgg, hle, hmax, hsz, htk⟩
  · obtain rfl : l = [] := List.length_eq_zero_iff.1 h0
    exact Lib.run_convert_nil_bytes w _ _ _ _ Tryd.underlying40 Tryd.underlying5 Tryd.underlying9
  · rw [run_convert_bytes_string w _ _ _ _ _ _ Tryd.underlying40 Tryd.underlying5 Tryd.underlying9]
    have hc := World.ownsRow.cells h (g := g) rfl
    have hload := run_loadCells_list (P := Tryd.prog) w ⟨g, 0, none⟩ (l.map enc) hc
    rw [List.length_map] at hload
    have := run_bytesToString (P := Tryd.prog) w ⟨g, 0, none⟩ l.length cap (l.map fun c => (c.toNat : Int)) (by rw [hload]; congr 2; simp [enc])
    rw [this, fold_push]
    simp
theorem ownB_lit (w : World) (cs : Array Value) (news : List UInt8) (hc : cs.toList = news.map enc) (hm : news.length ≤ maxLen) : ownB (w.alloc (.cells cs 5)) w.heap.size (.slice (some ⟨w.heap.size, 0, none⟩) news.length news.length) news := by
  have hs : cs.size = news.length := by rw [← Array.length_toList, hc, List.length_map]
  have h := World.ownsRow_lit (base := w.heap.size) (e := 5) (size := 1) w cs news.length (Nat.le_refl _) hm (by omega)
  unfold ownB
  rw [← hc]
  exact h
theorem conv_lit (w : World) (cs : Array Value) (news : List UInt8) (hc : cs.toList = news.map enc) (hm : news.length ≤ maxLen) :
    (convert 40 9 (.slice (some ⟨w.heap.size, 0, none⟩) news.length news.length)).run Tryd.prog (w.alloc (.cells cs 5)) = .ok (.string ⟨news.toArray⟩) (w.alloc (.cells cs 5)) :=
  conv_own (ownB_lit w cs news hc hm)
end Go.Proofs.YtdeoblhdojbbbaaDoor

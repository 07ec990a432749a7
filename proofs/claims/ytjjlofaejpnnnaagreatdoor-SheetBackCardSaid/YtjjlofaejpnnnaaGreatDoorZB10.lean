/-
  A READER IN MEMORY: its box, the set of the numbers told, the nodes, the way.
  A NODE MORE, in plain mathematics, as the program lets it stand: whether it may, its parent's kids, the way, the last root.
  PLAIN: what a right model is, told by its nodes alone; there and back.
-/
import Derived.Test.YtjjlofaejpnnnaaGreatDoorZB9
namespace Go.Proofs.YtjjlofaejpnnnaaGreatDoor
open Go Go.RowKit Go.Sort
open Go.Maps (Keyed)
set_option linter.unusedVariables false
theorem intK : Keyed Tryz.prog 3 := Maps.int_keyed Tryz.underlying3
theorem wf64 {n : Int} (h : -9223372036854775808 ≤ n ∧ n ≤ 9223372036854775807) : (Lit.int .i64 n).wf = true := by
  have h1 : IntKind.i64.min = -9223372036854775808 := by decide
  have h2 : IntKind.i64.max = 9223372036854775807 := by decide
  simp only [Lit.wf, Bool.and_eq_true, decide_eq_true_eq, h1, h2]
  exact h
theorem intKey {n : Int} (h : -9223372036854775808 ≤ n ∧ n ≤ 9223372036854775807) : keyOf Tryz.prog 3 (.int .i64 n) = some (.int .i64 n) := Maps.keyOf_int_mk Tryz.underlying3 (wf64 h)
theorem unitZ (w : World) : (zeroValue 148).run Tryz.prog w = .ok (.agg #[]) w := by kernel_rfl
/-- block b is a set that holds just these numbers -/
structure SeenIs (w : World) (b m : Nat) (ids : List Int) : Prop where
  out : ∃ D : DataW Unit, w.ownsMap Tryz.prog 3 unitElem b m D ∧ ∀ n : Int, Maps.has D (.int .i64 n) = ids.contains n
section
variable {w w' : World} {b m : Nat} {ids : List Int}
theorem SeenIs.made (w : World) : SeenIs (w.alloc (.map #[] 0)) w.heap.size 0 [] := ⟨_, World.ownsMap_made _ _ _ _, fun n => rfl⟩
theorem SeenIs.same (h : SeenIs w b m ids) (hb : w'.heap[b]? = w.heap[b]?) : SeenIs w' b m ids := by
  obtain ⟨D, ⟨es, clock, h1, h3⟩, h2⟩ := h.out
  exact ⟨D, ⟨es, clock, hb.trans h1, h3⟩, h2⟩
theorem SeenIs.lt (h : SeenIs w b m ids) : b < w.heap.size := by
  obtain ⟨D, h1, h2⟩ := h.out
  exact h1.lt
theorem SeenIs.after (h : SeenIs w b m ids) (hb : Below w.heap.size w w') : SeenIs w' b m ids := h.same (hb.block _ h.lt)
theorem SeenIs.mono {m' : Nat} (h : SeenIs w b m ids) (hm : m ≤ m') : SeenIs w b m' ids := by
  obtain ⟨D, h1, h2⟩ := h.out
  exact ⟨D, h1.mono hm, h2⟩
theorem SeenIs.not_cells (h : SeenIs w b m ids) : ∀ (cs : Array Value) (t : TypeId) (fr : Nat × Nat), w.heap[b]? ≠ some (.cells cs t fr) := by
  obtain ⟨D, ⟨es, clock, h1, h3⟩, h2⟩ := h.out
  intro cs t fr he
  rw [h1] at he
  cases he
theorem SeenIs.own_ne (h : SeenIs w b m ids) {B s n : Nat} {e : TypeId} {v : Value} {xs : List Value} (ho : w.ownsRow B e s v n xs) : some b ≠ v.ownBlock := by
  rcases ho.2 with ⟨rfl, _⟩ | ⟨g, cap, cur, rfl, _, hh, _⟩
  · simp [Value.ownBlock]
  · intro he
    have : b = g := by simpa [Value.ownBlock] using he
    subst this
    exact h.not_cells _ _ _ hh
theorem SeenIs.grown (h : SeenIs w b m ids) {B s n : Nat} {e : TypeId} {v : Value} {xs : List Value} (ho : w.ownsRow B e s v n xs) (hg : w.grownBy w' v.ownBlock) : SeenIs w' b m ids :=
  h.same (hg.block b h.lt (h.own_ne ho))
theorem SeenIs.set (h : SeenIs w b m ids) {p : Addr} (hp : b ≠ p.block) (u : Value) : SeenIs (w.setCell p u) b m ids := h.same (Below.heap_setCell w p u b hp)
theorem SeenIs.blk_ne (h : SeenIs w b m ids) {g : Nat} {t : TypeId} {cs : Array Value} (hg : Blk w g t cs) : b ≠ g := by
  rintro rfl
  exact h.not_cells _ _ _ hg
/-- is a number told? -/
theorem SeenIs.look (h : SeenIs w b m ids) {n : Int} (hn : -9223372036854775808 ≤ n ∧ n ≤ 9223372036854775807) : (Instr.lookup 43 (.map (some b)) (.int .i64 n) true).run Tryz.prog w = .ok (.tuple #[.agg #[], .bool (ids.contains n)]) w := by
  obtain ⟨D, h1, h2⟩ := h.out
  obtain ⟨v, ps, hr, hv⟩ := h1.look_ok intK Tryz.underlying43 (unitZ w) unitElem_mk (intKey hn)
  obtain ⟨rfl, _⟩ := unitElem_inv hv
  rw [hr, h2]
/-- a number is told -/
theorem SeenIs.put (h : SeenIs w b m ids) {n : Int} (hn : -9223372036854775808 ≤ n ∧ n ≤ 9223372036854775807) (hm : m ≤ 1000000000) : ∃ w', (Instr.mapUpdate 43 (.map (some b)) (.int .i64 n) (.agg #[])).run Tryz.prog w = .ok () w' ∧ SeenIs w' b (m + 1) (ids ++ [n]) ∧ w.grownBy w' (some b) := by
  obtain ⟨D, h1, h2⟩ := h.out
  obtain ⟨w', hr, ho, hg⟩ := h1.update intK Tryz.underlying43 (by unfold maxLen; omega) (intKey hn) unitElem_mk
  refine ⟨w', hr, ⟨_, ho, fun k => ?_⟩, hg⟩
  by_cases hk : k = n
  · subst hk
    rw [Maps.has_put_same h1.isMap (intK.key (intKey hn))]
    simp
  · rw [Maps.has_put_other (by intro hc; injection hc with _ hc; exact hk hc), h2]
    simp [hk]
end
/-- the last root's number; 0: there is none -/
def rootI (deep : List Nat) (ids : List Int) : Int := match lastIx deep 1 with
  | some i => (ids[i]?).getD 0
  | none => 0
def rootV (st : RS) : Int := rootI st.deep (st.nds.map (·.id))
def wayI (deep : List Nat) : List Int := (wayV deep).map Int.ofNat
theorem wayI_len (deep : List Nat) : (wayI deep).length = deep.getLastD 0 := by unfold wayI; rw [List.length_map, wayV_len]
/-- a reader in memory -/
structure RIn (B gr gm k : Nat) (v vw : Value) (l : List (Nd × Leaf)) (st : RS) (w : World) : Prop where
  box : Blk w gr 45 #[.int .i64 st.next, v, .map (some gm), .int .i64 (rootV st), vw]
  np : NP B v vw l (wayI st.deep) w
  set : SeenIs w gm k (st.nds.map (·.id))
  nds : l.map (·.1) = st.nds
  ok : st.next ≠ 0 → RsOk st
  zr : st.next = 0 → st.nds = [] ∧ st.deep = []
  ln : ∀ nd ∈ st.nds, nd.props.length ≤ k ∧ nd.kids.length ≤ k ∧ nd.refs.length ≤ k
  lr : gr < B
  lm : gm < B
  k1 : k ≤ 4194304
section
variable {B gr gm k : Nat} {v vw : Value} {l : List (Nd × Leaf)} {st : RS} {w w' : World}
theorem RIn.after (h : RIn B gr gm k v vw l st w) (hb : Below w.heap.size w w') : RIn B gr gm k v vw l st w' :=
  ⟨h.box.after hb, h.np.after hb, h.set.after hb, h.nds, h.ok, h.zr, h.ln, h.lr, h.lm, h.k1⟩
theorem RIn.more (h : RIn B gr gm k v vw l st w) (hk : k + 1 ≤ 4194304) : RIn B gr gm (k + 1) v vw l st w :=
  ⟨h.box, h.np, h.set.mono (by omega), h.nds, h.ok, h.zr, fun nd hnd => by have := h.ln nd hnd; omega, h.lr, h.lm, hk⟩
theorem RIn.len (h : RIn B gr gm k v vw l st w) : l.length = st.nds.length := by rw [← h.nds, List.length_map]
theorem RIn.v_form (h : RIn B gr gm k v vw l st w) : ∃ A c, v = .slice A st.nds.length c ∧ st.nds.length ≤ c ∧ c ≤ maxLen := by
  have := h.np.own
  unfold OwnN at this
  rw [h.len] at this
  rcases this.2 with ⟨rfl, h0⟩ | ⟨g, cap, cur, rfl, hb, hg, h1, h2, _⟩
  · exact ⟨none, 0, by rw [h0], by omega, by unfold maxLen; omega⟩
  · exact ⟨_, _, rfl, h1, h2⟩
theorem RIn.w_form (h : RIn B gr gm k v vw l st w) : ∃ A c, vw = .slice A (st.deep.getLastD 0) c ∧ st.deep.getLastD 0 ≤ c ∧ c ≤ maxLen := by
  have := h.np.way
  rw [wayI_len] at this
  rcases this.2 with ⟨rfl, h0⟩ | ⟨g, cap, cur, rfl, hb, hg, h1, h2, _⟩
  · exact ⟨none, 0, by rw [h0], by omega, by unfold maxLen; omega⟩
  · exact ⟨_, _, rfl, h1, h2⟩
theorem RIn.at_ (h : RIn B gr gm k v vw l st w) {i : Nat} {nd : Nd} (hi : st.nds[i]? = some nd) : ∃ L, l[i]? = some (nd, L) := by
  rw [← h.nds, List.getElem?_map] at hi
  obtain ⟨⟨nd', L⟩, hq, rfl⟩ := Option.map_eq_some_iff.1 hi
  exact ⟨L, hq⟩
end
/-- the cells of the node at place i -/
theorem NP.cells {B n c g i : Nat} {vw : Value} {l : List (Nd × Leaf)} {ws : List Int} {w : World} {nd : Nd} {L : Leaf} (h : NP B (.slice (some ⟨g, 0, none⟩) n c) vw l ws w) (hl : l.length = n) (hi : l[i]? = some (nd, L)) : NodeAt w g (i * 7) nd L := by
  subst hl
  have ho : w.ownsRow B 55 7 (.slice (some ⟨g, 0, none⟩) l.length c) l.length (allCells l) := h.own
  have hlt : i < l.length := (List.getElem?_eq_some_iff.1 hi).1
  have key : ∀ j u, j < 7 → (ndCells (nd, L))[j]? = some u → w.cell? ⟨g, i * 7 + j, none⟩ = some u := by
    intro j u hj hu
    rw [World.ownsRow.cellAt ho (i * 7 + j) (by omega)]
    unfold allCells
    rw [flatN_get ndCells_len l i _ hi j hj]
    exact hu
  exact ⟨key 0 _ (by omega) rfl, key 1 _ (by omega) rfl, key 2 _ (by omega) rfl, key 3 _ (by omega) rfl, key 4 _ (by omega) rfl, key 5 _ (by omega) rfl, key 6 _ (by omega) rfl⟩
theorem NP.frozen {B n c g : Nat} {vw : Value} {l : List (Nd × Leaf)} {ws : List Int} {w : World} (h : NP B (.slice (some ⟨g, 0, none⟩) n c) vw l ws w) (hl : l.length = n) (j : Nat) : w.frozen? ⟨g, j, none⟩ = false := by
  subst hl
  have ho : w.ownsRow B 55 7 (.slice (some ⟨g, 0, none⟩) l.length c) l.length (allCells l) := h.own
  exact World.ownsRow.frozenAt ho j
/-- where a row is that isn't empty -/
theorem own_addrB {w : World} {B n c s : Nat} {e : TypeId} {A : Option Addr} {xs : List Value} (h : w.ownsRow B e s (.slice A n c) n xs) (hn : 0 < n) : ∃ g, A = some ⟨g, 0, none⟩ ∧ B ≤ g := by
  rcases h.2 with ⟨hv, h0⟩ | ⟨g, cap, cur, hv, hb, _⟩
  · omega
  · injection hv with h1
    exact ⟨g, h1, hb⟩
end Go.Proofs.YtjjlofaejpnnnaaGreatDoor
namespace Go.Proofs.YtjjlofaejpnnnaaGreatDoor
open Go Go.RowKit
set_option linter.unusedVariables false
def idsOf (st : RS) : List Int := st.nds.map (·.id)
/-- a node more stands -/
def stoodV (st : RS) (n : Nd) (d : Nat) : RS :=
  if d = 0 then ⟨st.next, st.nds ++ [n], st.deep ++ [1]⟩
  else match upV st d with
    | some u => ⟨st.next, st.nds.set u.1 { u.2 with kids := u.2.kids ++ [n.id] } ++ [{ n with par := u.2.id }], st.deep ++ [d + 1]⟩
    | none => st
/-- it may not -/
def noStand (st : RS) (id : Int) (d : Nat) : Prop := 4096 ≤ st.nds.length ∨ 64 ≤ d ∨ st.deep.getLastD 0 < d ∨ id ∈ idsOf st ∨ (d = 0 ∧ id ≤ rootV st)
instance (st : RS) (id : Int) (d : Nat) : Decidable (noStand st id d) := by unfold noStand; exact inferInstance
theorem up_some {st : RS} (hl : st.deep.length = st.nds.length) {d i : Nat} (h : lastIx st.deep d = some i) : ∃ nd, st.nds[i]? = some nd ∧ upV st d = some (i, nd) := by
  have hi := (lastIx_some h).1
  have hg : st.nds[i]? = some (st.nds[i]'(by omega)) := List.getElem?_eq_getElem _
  refine ⟨_, hg, ?_⟩
  rw [upV_is hl, h, Option.bind_some, hg]
  rfl
theorem up_none {st : RS} (hl : st.deep.length = st.nds.length) {d : Nat} (h : lastIx st.deep d = none) : upV st d = none := by
  rw [upV_is hl, h]
  rfl
theorem any_ids (st : RS) (id : Int) : st.nds.any (·.id == id) = true ↔ id ∈ idsOf st := by
  unfold idsOf
  rw [List.any_eq_true, List.mem_map]
  constructor
  · rintro ⟨x, hx, he⟩; exact ⟨x, hx, by simpa using he⟩
  · rintro ⟨x, hx, he⟩; exact ⟨x, hx, by simpa using he⟩
theorem standsV_is {st : RS} (hl : st.deep.length = st.nds.length) (hk : DeepOk st.deep) (n : Nd) (d : Nat) : standsV st n d = if noStand st n.id d then none else some (stoodV st n d) := by
  unfold standsV
  by_cases h1 : 4096 ≤ st.nds.length ∨ 64 ≤ d ∨ (0 < d ∧ st.deep.getLastD 0 < d) ∨ st.nds.any (·.id == n.id) = true
  · rw [if_pos h1, if_pos]
    unfold noStand
    rcases h1 with h | h | h | h
    · exact .inl h
    · exact .inr (.inl h)
    · exact .inr (.inr (.inl h.2))
    · exact .inr (.inr (.inr (.inl ((any_ids st n.id).1 h))))
  · rw [if_neg h1]
    have h2 : n.id ∉ idsOf st := fun h => h1 (.inr (.inr (.inr ((any_ids st n.id).2 h))))
    by_cases hd : d = 0
    · subst hd
      rw [if_pos rfl]
      unfold stoodV
      rw [if_pos rfl]
      have hno : noStand st n.id 0 ↔ n.id ≤ rootV st := by
        unfold noStand
        constructor
        · rintro (h | h | h | h | h)
          · omega
          · omega
          · omega
          · exact absurd h h2
          · exact h.2
        · intro h; exact .inr (.inr (.inr (.inr ⟨rfl, h⟩)))
      cases hu : lastIx st.deep 1 with
      | none =>
        have hr : rootV st = 0 := by unfold rootV rootI; rw [hu]
        rw [up_none hl hu]
        simp only
        rw [hr] at hno
        by_cases h0 : n.id ≤ 0
        · rw [if_pos h0, if_pos (hno.2 h0)]
        · rw [if_neg h0, if_neg (fun h => h0 (hno.1 h))]
      | some i =>
        obtain ⟨nd, hnd, hup⟩ := up_some hl hu
        have hr : rootV st = nd.id := by
          unfold rootV rootI
          rw [hu]
          simp only
          rw [List.getElem?_map, hnd]; rfl
        rw [hup]
        simp only
        rw [hr] at hno
        by_cases h0 : n.id ≤ nd.id
        · rw [if_pos h0, if_pos (hno.2 h0)]
        · rw [if_neg h0, if_neg (fun h => h0 (hno.1 h))]
    · rw [if_neg hd]
      have hlast : d ≤ st.deep.getLastD 0 := by omega
      obtain ⟨i, hi⟩ := hk.way d (by omega) hlast
      obtain ⟨nd, hnd, hup⟩ := up_some hl hi
      have hno : ¬ noStand st n.id d := by
        unfold noStand
        rintro (h | h | h | h | h)
        · omega
        · omega
        · omega
        · exact h2 h
        · exact hd h.1
      rw [if_neg hno]
      unfold stoodV
      rw [if_neg hd, hup]
/-- what a node more turns -/
structure StoodAt (st : RS) (n : Nd) (d i : Nat) (nd : Nd) (st' : RS) : Prop where
  up : lastIx st.deep d = some i
  at_ : st.nds[i]? = some nd
  is : st' = ⟨st.next, st.nds.set i { nd with kids := nd.kids ++ [n.id] } ++ [{ n with par := nd.id }], st.deep ++ [d + 1]⟩
  way : (wayI st.deep)[d - 1]? = some (i : Int)
theorem stood_at {st : RS} (hl : st.deep.length = st.nds.length) (hk : DeepOk st.deep) (n : Nd) {d : Nat} (h0 : 0 < d) (hd : d ≤ st.deep.getLastD 0) : ∃ i nd, StoodAt st n d i nd (stoodV st n d) := by
  obtain ⟨i, hi⟩ := hk.way d (by omega) hd
  obtain ⟨nd, hnd, hup⟩ := up_some hl hi
  refine ⟨i, nd, hi, hnd, ?_, ?_⟩
  · unfold stoodV
    rw [if_neg (by omega), hup]
  · unfold wayI
    rw [List.getElem?_map, wayV_at h0 hd, hi]
    rfl
theorem wayI_snoc {deep : List Nat} {d : Nat} (h : d ≤ deep.getLastD 0) : wayI (deep ++ [d + 1]) = (wayI deep).take d ++ [(deep.length : Int)] := by
  unfold wayI
  rw [wayV_snoc h, List.map_append, List.map_take]
  rfl
theorem rootI_new (deep : List Nat) (ids : List Int) (x : Int) (h : deep.length = ids.length) : rootI (deep ++ [1]) (ids ++ [x]) = x := by
  unfold rootI
  rw [lastIx_snoc_eq, h]
  simp
theorem rootI_old (deep : List Nat) (ids : List Int) (x : Int) {d : Nat} (hd : 0 < d) (h : deep.length = ids.length) : rootI (deep ++ [d + 1]) (ids ++ [x]) = rootI deep ids := by
  unfold rootI
  rw [lastIx_snoc_ne deep (by omega)]
  cases hu : lastIx deep 1 with
  | none => rfl
  | some i =>
    have := (lastIx_some hu).1
    simp only
    rw [List.getElem?_append_left (by omega)]
theorem ids_stood {st : RS} {n : Nd} {d i : Nat} {nd : Nd} {st' : RS} (h : StoodAt st n d i nd st') : idsOf st' = idsOf st ++ [n.id] := by
  rw [h.is]
  unfold idsOf
  rw [List.map_append, set_ids (nd' := { nd with kids := nd.kids ++ [n.id] }) h.at_ rfl]
  rfl
theorem rootV_last {st : RS} {nd nd' : Nd} (h : st.nds.getLast? = some nd) (hi : nd'.id = nd.id) : rootV (lastV st nd') = rootV st := by
  unfold rootV
  rw [lastV_ids h hi]
  rfl
theorem lastV_set {st : RS} {nd nd' : Nd} (h : st.nds.getLast? = some nd) : (lastV st nd').nds = st.nds.set (st.nds.length - 1) nd' := by
  have e := last_split h
  have hlen : st.nds.length = st.nds.dropLast.length + 1 := by
    have := congrArg List.length e
    simpa using this
  unfold lastV
  simp only
  conv => rhs; rw [e]
  rw [List.length_append, List.length_singleton, Nat.add_sub_cancel, List.set_append_right _ _ (Nat.le_refl _)]
  simp
theorem last_get {st : RS} {nd : Nd} (h : st.nds.getLast? = some nd) : 0 < st.nds.length ∧ st.nds[st.nds.length - 1]? = some nd := by
  rw [List.getLast?_eq_getElem?] at h
  refine ⟨?_, h⟩
  have := (List.getElem?_eq_some_iff.1 h).1
  omega
end Go.Proofs.YtjjlofaejpnnnaaGreatDoor
namespace Go.Proofs.YtjjlofaejpnnnaaGreatDoor
open Go Go.RowKit
set_option linter.unusedVariables false
/-- a node's words -/
structure SpN (next : Int) (nd : Nd) : Prop where
  con : wordB nd.con = true
  props : propsB none nd.props = true
  refs : refsB next none nd.refs = true
/-- where a node hangs -/
def ParN (nds : List Nd) (nd : Nd) : Prop := (nd.par = 0 ∧ nd.role.toList = []) ∨ (nd.par ≠ 0 ∧ wordB nd.role = true ∧ ∃ p ∈ nds, p.id = nd.par ∧ nd.id ∈ p.kids)
/-- a right model -/
structure TM (next : Int) (nds : List Nd) : Prop where
  lo : 1 ≤ next
  hi : next ≤ 1048577
  len : nds.length ≤ 4096
  rise : (nds.map (·.id)).Pairwise (· < ·)
  ids : ∀ nd ∈ nds, 1 ≤ nd.id ∧ nd.id < next
  sp : ∀ nd ∈ nds, SpN next nd
  nod : ∀ nd ∈ nds, nd.kids.Nodup
  kid : ∀ nd ∈ nds, ∀ k ∈ nd.kids, ∃ x ∈ nds, x.id = k ∧ x.par = nd.id
  par : ∀ nd ∈ nds, ParN nds nd
  dep : ∃ d : Int → Nat, d 0 = 0 ∧ ∀ nd ∈ nds, d nd.id = d nd.par + 1 ∧ d nd.id ≤ 64
theorem pw_rise {nds : List Nd} (h : (nds.map (·.id)).Pairwise (· < ·)) (h1 : ∀ nd ∈ nds, 1 ≤ nd.id) : Rise nds := by
  rw [List.pairwise_map, List.pairwise_iff_getElem] at h
  refine ⟨fun i nd hi => h1 nd (List.mem_of_getElem? hi), fun i j a b hij ha hb => ?_⟩
  obtain ⟨hi, rfl⟩ := List.getElem?_eq_some_iff.1 ha
  obtain ⟨hj, rfl⟩ := List.getElem?_eq_some_iff.1 hb
  exact h i j hi hj hij
theorem rise_pw {nds : List Nd} (h : Rise nds) : (nds.map (·.id)).Pairwise (· < ·) := by
  rw [List.pairwise_map, List.pairwise_iff_getElem]
  intro i j hi hj hij
  exact h.lt i j _ _ hij (List.getElem?_eq_getElem hi) (List.getElem?_eq_getElem hj)
theorem nd_uniq {nds : List Nd} (h : Rise nds) {x y : Nd} (hx : x ∈ nds) (hy : y ∈ nds) (e : x.id = y.id) : x = y := by
  obtain ⟨i, hi⟩ := List.getElem?_of_mem hx
  obtain ⟨j, hj⟩ := List.getElem?_of_mem hy
  have := h.inj hi hj e
  subst this
  rw [hi] at hj
  injection hj
theorem ndOf_mem {nds : List Nd} (h : Rise nds) {k : Int} {x : Nd} : ndOf nds k = some x ↔ x ∈ nds ∧ x.id = k := by
  constructor
  · intro hx
    obtain ⟨i, _, hi, e⟩ := ndOf_some hx
    exact ⟨List.mem_of_getElem? hi, e⟩
  · rintro ⟨hx, rfl⟩
    obtain ⟨i, hi⟩ := List.getElem?_of_mem hx
    exact ndOf_is h hi
theorem idsB_mk {next : Int} : ∀ {last : Int} {nds : List Nd}, (∀ nd ∈ nds, last < nd.id ∧ nd.id < next) → (nds.map (·.id)).Pairwise (· < ·) → idsB next last nds = true
  | _, [], _, _ => rfl
  | last, x :: r, h, hp => by
    rw [List.map_cons, List.pairwise_cons] at hp
    have hx := h x (List.mem_cons_self ..)
    rw [idsB, idsB_mk (fun nd hnd => ⟨hp.1 _ (List.mem_map_of_mem hnd), (h nd (List.mem_cons_of_mem _ hnd)).2⟩) hp.2]
    simp [hx.1, hx.2]
section
variable {next : Int} {nds : List Nd}
theorem TM.riseR (h : TM next nds) : Rise nds := pw_rise h.rise fun nd hnd => (h.ids nd hnd).1
theorem TM.below_mk (h : TM next nds) {d : Int → Nat} (hd : ∀ nd ∈ nds, d nd.id = d nd.par + 1 ∧ d nd.id ≤ 64) : ∀ (f : Nat) (nd : Nd), nd ∈ nds → d nd.id ≤ f → belowB nds f nd = true
  | 0, nd, hnd, hf => by have := (hd nd hnd).1; omega
  | f + 1, nd, hnd, hf => by
    rw [belowB]
    rcases h.par nd hnd with ⟨hp, hr⟩ | ⟨hp, hw, p, hpm, hpi, hk⟩
    · rw [if_pos hp, hr]; rfl
    · rw [if_neg hp, (ndOf_mem h.riseR).2 ⟨hpm, hpi⟩]
      have h1 := (hd nd hnd).1
      rw [← hpi] at h1
      simp only [hw, Bool.true_and, Bool.and_eq_true]
      exact ⟨by simpa using hk, TM.below_mk h hd f p hpm (by omega)⟩
theorem TM.kl (h : TM next nds) {nd : Nd} (hnd : nd ∈ nds) : nd.kids.length ≤ nds.length := by
  have := nodup_le (m := nds.map (·.id)) (h.nod nd hnd) (fun k hk => by
    obtain ⟨x, hx, rfl, _⟩ := h.kid nd hnd k hk
    exact List.mem_map_of_mem hx)
  rwa [List.length_map] at this
theorem TM.right (h : TM next nds) : rightB next nds = true := by
  obtain ⟨d, h0, hd⟩ := h.dep
  have hi : idsB next 0 nds = true := idsB_mk (fun nd hnd => ⟨by have := (h.ids nd hnd).1; omega, (h.ids nd hnd).2⟩) h.rise
  have hn : ∀ nd ∈ nds, (plainB next nds nd && belowB nds 64 nd) = true := by
    intro nd hnd
    have hs := h.sp nd hnd
    have hkl := h.kl hnd
    have hk : kidsB nds nd.id [] nd.kids = true := kidsB_spec.2 ⟨fun k hk => ⟨by
      obtain ⟨x, hx, e, hp⟩ := h.kid nd hnd k hk
      exact ⟨x, (ndOf_mem h.riseR).2 ⟨hx, e⟩, hp⟩, by simp⟩, h.nod nd hnd⟩
    rw [h.below_mk hd 64 nd hnd (hd nd hnd).2, Bool.and_true]
    unfold plainB
    rw [hs.con, hs.props, hs.refs, hk, decide_eq_true hkl]
    rfl
  unfold rightB numB headB
  rw [hi, decide_eq_true h.lo, decide_eq_true h.hi, decide_eq_true h.len, List.all_eq_true.2 hn]
  rfl
theorem RightM.step (hR : RightM next nds) {nd : Nd} (hnd : nd ∈ nds) : depthV nds nd.id = depthV nds nd.par + 1 ∧ depthV nds nd.id ≤ 64 := by
  have hx := (ndOf_mem hR.rise).2 ⟨hnd, rfl⟩
  obtain ⟨D, D1, D2⟩ := hR.depth hx
  refine ⟨?_, D2⟩
  have hid : nd.id ≠ 0 := by
    obtain ⟨i, hi⟩ := List.getElem?_of_mem hnd
    have := hR.rise.pos i nd hi
    omega
  by_cases h0 : nd.par = 0
  · have h1 : DepthIs nds nd.par (depthV nds nd.par) := by rw [h0]; exact depth_root.1
    exact D.eq (h1.succ hx hid)
  · have hb := hR.below nd hnd
    rw [show (64 : Nat) = 63 + 1 from rfl, belowB, if_neg h0] at hb
    cases hp : ndOf nds nd.par with
    | none => rw [hp] at hb; cases hb
    | some p => exact D.eq ((hR.depth hp).1.succ hx hid)
theorem tm_of (h : rightB next nds = true) : TM next nds := by
  have hR := rightM h
  refine ⟨hR.lo, hR.hi, hR.len, rise_pw hR.rise, fun nd hnd => ?_, fun nd hnd => ?_, fun nd hnd => (hR.kids hnd).2, fun nd hnd k hk => ?_, fun nd hnd => ?_, depthV nds, depth_root.2, fun nd hnd => hR.step hnd⟩
  · obtain ⟨i, hi⟩ := List.getElem?_of_mem hnd
    exact ⟨hR.rise.pos i nd hi, hR.lt i nd hi⟩
  · have := hR.plain nd hnd
    unfold plainB at this
    simp only [Bool.and_eq_true] at this
    exact ⟨this.1.1.1.1, this.1.1.2, this.1.2⟩
  · obtain ⟨x, hx, hp⟩ := (hR.kids hnd).1 k hk
    obtain ⟨h1, h2⟩ := (ndOf_mem hR.rise).1 hx
    exact ⟨x, h1, h2, hp⟩
  · have hb := hR.below nd hnd
    rw [show (64 : Nat) = 63 + 1 from rfl, belowB] at hb
    by_cases h0 : nd.par = 0
    · rw [if_pos h0] at hb
      exact .inl ⟨h0, by simpa using hb⟩
    · rw [if_neg h0] at hb
      cases hp : ndOf nds nd.par with
      | none => rw [hp] at hb; cases hb
      | some p =>
        rw [hp] at hb
        simp only [Bool.and_eq_true] at hb
        obtain ⟨h1, h2⟩ := (ndOf_mem hR.rise).1 hp
        exact .inr ⟨h0, hb.1.1, p, h1, h2, by simpa using hb.1.2⟩
/-- what is below a node's kids is below the node -/
theorem preI_kids (hR : RightM next nds) : ∀ (f : Nat) (x : Int) (nd : Nd), ndOf nds x = some nd → depthV nds x + f = 65 → ∀ y ∈ preI nds x, ∀ p, ndOf nds y = some p → ∀ k ∈ p.kids, k ∈ preI nds x
  | 0, x, nd, hx, hf, _, _, _, _, _, _ => by have := depthV_le nds x; omega
  | f + 1, x, nd, hx, hf, y, hy, p, hp, k, hk => by
    rw [preI_eq hR hx] at hy ⊢
    rw [List.mem_cons] at hy ⊢
    refine .inr ?_
    rw [List.mem_flatMap]
    rcases hy with rfl | hy
    · rw [hx] at hp
      injection hp with hp
      subst hp
      obtain ⟨r, hr⟩ := preI_cons nds k
      exact ⟨k, hk, by rw [hr]; exact List.mem_cons_self ..⟩
    · obtain ⟨c, hc, hy⟩ := List.mem_flatMap.1 hy
      obtain ⟨z, hz, _, hd⟩ := kid_depth hR hx hc
      exact ⟨c, hc, preI_kids hR f c z hz (by omega) y hy p hp k hk⟩
theorem preI_kid (hR : RightM next nds) {x y : Int} {nd p : Nd} (hx : ndOf nds x = some nd) (hy : y ∈ preI nds x) (hp : ndOf nds y = some p) {k : Int} (hk : k ∈ p.kids) : k ∈ preI nds x := by
  have := depthV_le nds x
  exact preI_kids hR (65 - depthV nds x) x nd hx (by omega) y hy p hp k hk
/-- every node stands in document order -/
theorem order_all (hR : RightM next nds) : ∀ (f : Nat) (nd : Nd), nd ∈ nds → depthV nds nd.id ≤ f → nd.id ∈ orderV nds
  | 0, nd, hnd, hf => by have := (hR.step hnd).1; omega
  | f + 1, nd, hnd, hf => by
    by_cases h0 : nd.par = 0
    · have hr : nd.id ∈ rootsV nds := List.mem_map.2 ⟨nd, List.mem_filter.2 ⟨hnd, by rw [h0]; rfl⟩, rfl⟩
      obtain ⟨r, hr'⟩ := preI_cons nds nd.id
      exact List.mem_flatMap.2 ⟨nd.id, hr, by rw [hr']; exact List.mem_cons_self ..⟩
    · obtain ⟨p, hp, hk⟩ : ∃ p, ndOf nds nd.par = some p ∧ nd.id ∈ p.kids := by
        have hb := hR.below nd hnd
        rw [show (64 : Nat) = 63 + 1 from rfl, belowB, if_neg h0] at hb
        cases hp : ndOf nds nd.par with
        | none => rw [hp] at hb; cases hb
        | some p =>
          rw [hp] at hb
          simp only [Bool.and_eq_true] at hb
          exact ⟨p, rfl, by simpa using hb.1.2⟩
      obtain ⟨hpm, hpi⟩ := (ndOf_mem hR.rise).1 hp
      have hd := (hR.step hnd).1
      rw [← hpi] at hd
      have ih := order_all hR f p hpm (by omega)
      obtain ⟨r, hr, hy⟩ := List.mem_flatMap.1 ih
      obtain ⟨⟨q, hq⟩, _⟩ := roots_at hR r hr
      exact List.mem_flatMap.2 ⟨r, hr, preI_kid hR hq hy (by rw [hpi]; exact hp) hk⟩
theorem order_mem_all (hR : RightM next nds) {nd : Nd} (hnd : nd ∈ nds) : nd.id ∈ orderV nds := order_all hR 64 nd hnd (hR.step hnd).2
theorem order_nodup (hR : RightM next nds) : (orderV nds).Nodup := by
  rw [← order_pre hR]
  exact pre_nodup hR 64 1 1 _ (roots_nodup hR.rise) (roots_at hR)
theorem order_full (hR : RightM next nds) : (orderV nds).length = nds.length := by
  refine Nat.le_antisymm (order_len hR) ?_
  have := nodup_le (l := nds.map (·.id)) (m := orderV nds) (ids_nodup hR.rise) (fun k hk => by
    obtain ⟨x, hx, rfl⟩ := List.mem_map.1 hk
    exact order_mem_all hR hx)
  rwa [List.length_map] at this
end
end Go.Proofs.YtjjlofaejpnnnaaGreatDoor

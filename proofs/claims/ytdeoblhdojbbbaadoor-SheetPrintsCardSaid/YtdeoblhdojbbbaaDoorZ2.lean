/-
  MEMORY OF THE CALL's OWN: slices that were built, their cells, what they read as; lists that were lent, with a mark behind.
  A MODEL AS AN ARGUMENT: what the reading of it tells of the cells, and how long its lists are.
  PLAIN VALUES: what a word is, what a model is. No program stands in it.
-/
import Derived.Test.YtdeoblhdojbbbaaDoorZ1
import Derived.Deep.AppendLies
import Derived.Deep.RegionHeld3
import Derived.Maps.AppendAt
import Derived.Test.YtdeoblhdojbbbaaDoorRows
import Derived.Deep.Slices
import Derived.Deep.SlicePairs
import Derived.Deep.Fields
import Derived.ChangeSame
import Derived.ChangeSlices
import Derived.Lib.SmallJoins
import Derived.Carry
namespace Go.Proofs.YtdeoblhdojbbbaaDoor
open Go Go.RowKit Go.Sort
set_option linter.unusedVariables false
theorem flatN_get {α : Type} {f : α → List Value} {s : Nat} (hs : ∀ a, (f a).length = s) (l : List α) : ∀ (i : Nat) (p : α), l[i]? = some p → ∀ j, j < s → (l.flatMap f)[i * s + j]? = (f p)[j]? := by
  induction l with
  | nil => intro i p h; simp at h
  | cons q l ih =>
    intro i p h j hj
    have hq := hs q
    rw [List.flatMap_cons]
    match i, h with
    | 0, h =>
      obtain rfl : q = p := by simpa using h
      rw [Nat.zero_mul, Nat.zero_add, List.getElem?_append_left (by omega)]
    | i + 1, h =>
      have := ih i p (by simpa using h) j hj
      rw [Nat.succ_mul, List.getElem?_append_right (by omega), hq]
      rw [show i * s + s + j - s = i * s + j from by omega]
      exact this
theorem flatN_len {α : Type} {f : α → List Value} {s : Nat} (hs : ∀ a, (f a).length = s) (l : List α) : (l.flatMap f).length = l.length * s := by
  induction l with
  | nil => simp
  | cons q l ih => rw [List.flatMap_cons, List.length_append, ih, hs, List.length_cons, Nat.succ_mul]; omega
/-- a node's seven cells -/
def ndCells (p : Nd × Leaf) : List Value := [.int .i64 p.1.id, .string p.1.con, .int .i64 p.1.par, .string p.1.role, .slice p.2.p.A p.2.p.n p.2.p.c, .slice p.2.k.A p.2.k.n p.2.k.c, .slice p.2.r.A p.2.r.n p.2.r.c]
theorem ndCells_len (p : Nd × Leaf) : (ndCells p).length = 7 := rfl
def allCells (l : List (Nd × Leaf)) : List Value := l.flatMap ndCells
theorem allCells_len (l : List (Nd × Leaf)) : (allCells l).length = l.length * 7 := flatN_len ndCells_len l
theorem propCells_one (l : List (ByteArray × ByteArray)) : ∀ u ∈ propCells l, u.oneCell' = true := by
  intro u hu
  obtain ⟨p, _, hp⟩ := List.mem_flatMap.1 hu
  simp only [List.mem_cons, List.not_mem_nil, or_false] at hp
  rcases hp with rfl | rfl <;> rfl
theorem refCells_one (l : List (ByteArray × Int)) : ∀ u ∈ refCells l, u.oneCell' = true := by
  intro u hu
  obtain ⟨p, _, hp⟩ := List.mem_flatMap.1 hu
  simp only [List.mem_cons, List.not_mem_nil, or_false] at hp
  rcases hp with rfl | rfl <;> rfl
theorem intCells_one (l : List Int) : ∀ u ∈ intCells l, u.oneCell' = true := by
  intro u hu
  obtain ⟨p, _, rfl⟩ := List.mem_map.1 hu
  rfl
section
variable {w w' : World} {B : Nat} {e : TypeId} {size n : Nat} {v : Value} {xs : List Value}
/-- an own row reads as a row -/
theorem own_row {A : Option Addr} {c : Nat} (h : w.ownsRow B e size (.slice A n c) n xs) : Row w B w.heap.size size A n c xs := by
  refine ⟨h.1, ?_⟩
  rcases h.2 with ⟨hv, hn⟩ | ⟨g, cap, cur, hv, hb, hg, hn, hm, _, _⟩
  · injection hv with h1 h2 h3
    subst hn
    exact ⟨by omega, by unfold maxLen; omega, fun h => absurd h (by omega)⟩
  · injection hv with h1 h2 h3
    subst h3
    refine ⟨hn, hm, fun h0 => ⟨g, 0, h1, hb, (Array.getElem?_eq_some_iff.1 hg).1, fun j u hu => ?_⟩⟩
    subst h1
    have := World.ownsRow.cells h (g := g) rfl j u hu
    simpa [Addr.add_lit] using this
theorem own_after (h : w.ownsRow B e size v n xs) (hb : Below w.heap.size w w') : w'.ownsRow B e size v n xs := by
  refine ⟨h.1, ?_⟩
  rcases h.2 with hn | ⟨g, cap, cur, rfl, hbg, hgg, rest⟩
  · exact .inl hn
  · refine .inr ⟨g, cap, cur, rfl, hbg, ?_, rest⟩
    rw [hb.block g (Array.getElem?_eq_some_iff.1 hgg).1]
    exact hgg
/-- .. while a block of another type is written -/
theorem own_other {g : Nat} {t : TypeId} {cs : Array Value} (h : w.ownsRow B e size v n xs) (hg : Blk w g t cs) (hne : e ≠ t) (i : Nat) (u : Value) : (w.setCell ⟨g, i, none⟩ u).ownsRow B e size v n xs := by
  refine ⟨h.1, ?_⟩
  rcases h.2 with hn | ⟨g', cap, cur, rfl, hbg, hgg, rest⟩
  · exact .inl hn
  · refine .inr ⟨g', cap, cur, rfl, hbg, ?_, rest⟩
    have hne' : g' ≠ g := Blk.ne_ (t := e) hgg hg hne
    rw [Below.heap_setCell _ ⟨g, i, none⟩ _ _ hne']
    exact hgg
theorem own_blk_ne {g : Nat} {t : TypeId} {cs : Array Value} (h : w.ownsRow B e size v n xs) (hg : Blk w g t cs) (hne : e ≠ t) : v.ownBlock ≠ some g := by
  rcases h.2 with ⟨rfl, _⟩ | ⟨g', cap, cur, rfl, _, hh, _⟩
  · simp [Value.ownBlock]
  · intro he
    have : g' = g := by simpa [Value.ownBlock] using he
    subst this
    exact Blk.ne_ (t := e) hh hg hne rfl
theorem own_own_ne {B' : Nat} {e' : TypeId} {size' n' : Nat} {v' : Value} {xs' : List Value} (h : w.ownsRow B e size v n xs) (h' : w.ownsRow B' e' size' v' n' xs') (hne : e ≠ e') : v.ownBlock = none ∨ v.ownBlock ≠ v'.ownBlock := by
  rcases h.2 with ⟨rfl, _⟩ | ⟨g, cap, cur, rfl, _, hh, _⟩
  · exact .inl rfl
  · right
    rcases h'.2 with ⟨rfl, _⟩ | ⟨g', cap', cur', rfl, _, hh', _⟩
    · simp [Value.ownBlock]
    · intro he
      have : g = g' := by simpa [Value.ownBlock] using he
      subst this
      exact Blk.ne_ (t := e) hh hh' hne rfl
theorem own_mono {B' : Nat} (h : w.ownsRow B e size v n xs) (hB : B' ≤ B) : w.ownsRow B' e size v n xs := by
  refine ⟨h.1, ?_⟩
  rcases h.2 with hn | ⟨g, cap, cur, hv, hb, rest⟩
  · exact .inl hn
  · exact .inr ⟨g, cap, cur, hv, by omega, rest⟩
/-- the first ones of an own row -/
theorem own_take {A : Option Addr} {c : Nat} {k : Nat} (h : w.ownsRow B e size (.slice A n c) n xs) (hk : k ≤ n) (hA : A ≠ none) : w.ownsRow B e size (.slice A k c) k (xs.take (k * size)) := by
  have hle : k * size ≤ n * size := Nat.mul_le_mul_right _ hk
  refine ⟨by rw [List.length_take, h.1]; omega, ?_⟩
  rcases h.2 with ⟨hv, hn⟩ | ⟨g, cap, cur, hv, hb, hg, hn, hm, hs, ht⟩
  · injection hv with h1; exact absurd h1 hA
  · injection hv with h1 h2 h3
    subst h1 h3
    refine .inr ⟨g, c, cur, rfl, hb, hg, by omega, hm, hs, ?_⟩
    rw [← ht, List.take_take, Nat.min_eq_left hle]
/-- a new, empty one, with whatever room -/
theorem own_empty {g : Nat} (hg : w.heap[g]? = some (.cells #[] e (0, 0))) (hB : B ≤ g) : w.ownsRow B e size (.slice (some ⟨g, 0, none⟩) 0 0) 0 [] :=
  ⟨by simp, .inr ⟨g, 0, #[], rfl, hB, hg, Nat.le_refl _, by unfold maxLen; omega, by simp, by simp⟩⟩
end
/-- a block that is known whole, as a row -/
theorem row_blk {w : World} {g n c size : Nat} {e : TypeId} {fr : Nat × Nat} {cs : Array Value} (hg : w.heap[g]? = some (.cells cs e fr)) (hs : cs.size = n * size) (hn : n ≤ c) (hc : c ≤ maxLen) : Row w g (g + 1) size (some ⟨g, 0, none⟩) n c cs.toList :=
  ⟨by simpa using hs, hn, hc, fun _ => ⟨g, 0, rfl, Nat.le_refl _, Nat.lt_succ_self _, fun j u hu => by
    rw [cell_of_row w g (0 + j) cs e fr hg, Nat.zero_add]; simpa using hu⟩⟩
section
variable {P : Program} (w : World)
theorem run_app_nil (base : Nat) (t ty e : TypeId) (i : TypeInfo) (size : Nat) (ht : P.underlying t = some (.slice e)) (hi : P.info? e = some i)
    (v : Value) (n : Nat) (xs : List Value) (hown : w.ownsRow base e size v n xs) (c : Nat) : (Builtin.append_ #[t, t] ty #[v, .slice none 0 c]).run P w = .ok v w := by
  rcases hown.2 with ⟨rfl, rfl⟩ | ⟨g, cap, cur, rfl, _, _, hnc, _⟩
  · simp [Builtin.append_, run_underlying ht, sizeOf, typeInfo, hi, Builtin.lenOf, Builtin.firstCells]
  · simp [Builtin.append_, run_underlying ht, sizeOf, typeInfo, hi, Builtin.lenOf, Builtin.firstCells, hnc, storeCells]
theorem run_app (base : Nat) (t ty e : TypeId) (i : TypeInfo) (z : Value) (size bytes : Nat) (ht : P.underlying t = some (.slice e)) (hi : P.info? e = some i) (hz : i.zero = some z)
    (hsize : i.size = size) (hby : i.bytes = bytes) (hzs : z.cells.size = size) (hsz : 0 < size)
    (v : Value) (n : Nat) (xs : List Value) (hown : w.ownsRow base e size v n xs)
    (lo hi' : Nat) (A : Option Addr) (m c : Nat) (news : List Value) (hr : Row w lo hi' size A m c news) (h1 : ∀ u ∈ news, u.oneCell' = true)
    (h63 : n + m ≤ maxLen) (hbytes : (n + m) * bytes ≤ 140737488355328) (hbase : base ≤ w.heap.size) :
    ∃ v' w', (Builtin.append_ #[t, t] ty #[v, .slice A m c]).run P w = .ok v' w' ∧ w'.ownsRow base e size v' (n + m) (xs ++ news) ∧ w.grownBy w' v.ownBlock ∧
      (v'.ownBlock = v.ownBlock ∨ v'.ownBlock = some w.heap.size) := by
  rcases A with _ | ad
  · have hm : m = 0 := by
      rcases Nat.eq_zero_or_pos m with h0 | h0
      · exact h0
      · obtain ⟨b, o, h, _⟩ := hr.2.2.2 h0
        cases h
    subst hm
    have hn : news = [] := List.eq_nil_of_length_eq_zero (by simpa using hr.1)
    subst hn
    exact ⟨v, w, run_app_nil w base t ty e i size ht hi v n xs hown c, by simpa using hown, World.grownBy.refl w _, .inl rfl⟩
  · have hcells : ∀ j u, news[j]? = some u → w.cell? (ad.add j) = some u := by
      intro j u hu
      rcases Nat.eq_zero_or_pos m with h0 | h0
      · subst h0
        have hn : news = [] := List.eq_nil_of_length_eq_zero (by simpa using hr.1)
        subst hn
        simp at hu
      · obtain ⟨b, o, h, _, _, hc⟩ := hr.2.2.2 h0
        injection h with h
        subst h
        rw [Addr.add_lit]
        exact hc j u hu
    obtain ⟨v', w', hrun, h2, h3, _, h5⟩ := run_append_own_at (P := P) w base t ty e i z size bytes ht hi hz hsize hby hzs hsz v n xs hown ad m c news hr.1 hcells h1 h63 hbytes hbase
    exact ⟨v', w', hrun, h2, h3, h5⟩
theorem wp_app {o : Oper} {a : Act} {K : Act → World → Prop} {Q : Exit → Act → World → Prop} (s x : Operand) (t : TypeId)
    (ho : o.op = .call { callee := .builtin .append, args := #[s, x], argTypes := #[t, t] })
    (base : Nat) (e : TypeId) (i : TypeInfo) (z : Value) (size bytes : Nat) (ht : P.underlying t = some (.slice e)) (hi : P.info? e = some i) (hz : i.zero = some z)
    (hsize : i.size = size) (hby : i.bytes = bytes) (hzs : z.cells.size = size) (hsz : 0 < size)
    (v : Value) (n : Nat) (xs : List Value) (hs : a.eval s = v) (hown : w.ownsRow base e size v n xs)
    (lo hi' : Nat) (A : Option Addr) (m c : Nat) (news : List Value) (hx : a.eval x = .slice A m c) (hr : Row w lo hi' size A m c news) (h1 : ∀ u ∈ news, u.oneCell' = true)
    (h63 : n + m ≤ maxLen) (hbytes : (n + m) * bytes ≤ 140737488355328) (hbase : base ≤ w.heap.size)
    (h : ∀ v' w', w'.ownsRow base e size v' (n + m) (xs ++ news) → w.grownBy w' v.ownBlock → (v'.ownBlock = v.ownBlock ∨ v'.ownBlock = some w.heap.size) → K (a.put o.dst v') w') : o.wp P a w K Q := by
  obtain ⟨v', w', hrun, h2, h3, h4⟩ := run_app (P := P) w base t o.type e i z size bytes ht hi hz hsize hby hzs hsz v n xs hown lo hi' A m c news hr h1 h63 hbytes hbase
  unfold Oper.wp execOp
  simp only [ho, resolve, invoke, builtin, Sem.run_bind, Sem.run_pure, Result.andThen_ok, List.map_toArray, List.map_cons, List.map_nil, hs, hx, hrun]
  exact h v' w' h2 h3 h4
/-- append as the walk takes it, in a plain region -/
theorem wpList_app {ops : Array Oper} {rest : List Oper} {o : Oper} {a : Act} {Q : Exit → Act → World → Prop} (hgd : o.guard = none) (s x : Operand) (t : TypeId)
    (ho : o.op = .call { callee := .builtin .append, args := #[s, x], argTypes := #[t, t] })
    (base : Nat) (e : TypeId) (i : TypeInfo) (z : Value) (size bytes : Nat) (ht : P.underlying t = some (.slice e)) (hi : P.info? e = some i) (hz : i.zero = some z)
    (hsize : i.size = size) (hby : i.bytes = bytes) (hzs : z.cells.size = size) (hsz : 0 < size)
    (v : Value) (n : Nat) (xs : List Value) (hs : a.eval s = v) (hown : w.ownsRow base e size v n xs)
    (lo hi' : Nat) (A : Option Addr) (m c : Nat) (news : List Value) (hx : a.eval x = .slice A m c) (hr : Row w lo hi' size A m c news) (h1 : ∀ u ∈ news, u.oneCell' = true)
    (h63 : n + m ≤ maxLen) (hbytes : (n + m) * bytes ≤ 140737488355328) (hbase : base ≤ w.heap.size)
    (h : ∀ v' w', w'.ownsRow base e size v' (n + m) (xs ++ news) → w.grownBy w' v.ownBlock → (v'.ownBlock = v.ownBlock ∨ v'.ownBlock = some w.heap.size) → wpList P ops Q rest (a.put o.dst v') w') : wpList P ops Q (o :: rest) a w :=
  wpList_plain hgd fun _ hK => wp_app w s x t ho base e i z size bytes ht hi hz hsize hby hzs hsz v n xs hs hown lo hi' A m c news hx hr h1 h63 hbytes hbase fun v' w' h2 h3 h4 => hK _ _ (h v' w' h2 h3 h4)
/-- .. as a step of a region that draws its order -/
theorem step_app {ops : Array Oper} {o : Oper} {a : Act} {K : Act → World → Prop} {Q : Exit → Act → World → Prop} {E : Prop} (hgd : o.guard = none) (s x : Operand) (t : TypeId)
    (ho : o.op = .call { callee := .builtin .append, args := #[s, x], argTypes := #[t, t] })
    (base : Nat) (e : TypeId) (i : TypeInfo) (z : Value) (size bytes : Nat) (ht : P.underlying t = some (.slice e)) (hi : P.info? e = some i) (hz : i.zero = some z)
    (hsize : i.size = size) (hby : i.bytes = bytes) (hzs : z.cells.size = size) (hsz : 0 < size)
    (v : Value) (n : Nat) (xs : List Value) (hs : a.eval s = v) (hown : w.ownsRow base e size v n xs)
    (lo hi' : Nat) (A : Option Addr) (m c : Nat) (news : List Value) (hx : a.eval x = .slice A m c) (hr : Row w lo hi' size A m c news) (h1 : ∀ u ∈ news, u.oneCell' = true)
    (h63 : n + m ≤ maxLen) (hbytes : (n + m) * bytes ≤ 140737488355328) (hbase : base ≤ w.heap.size)
    (h : ∀ v' w', w'.ownsRow base e size v' (n + m) (xs ++ news) → w.grownBy w' v.ownBlock → (v'.ownBlock = v.ownBlock ∨ v'.ownBlock = some w.heap.size) → K (a.put o.dst v') w') :
    if Region.wanted o (yielded ops a.tmps) = true then Oper.wp P o a w K Q else E := by
  have hw : Region.wanted o (yielded ops a.tmps) = true := by simp [Region.wanted, hgd]
  rw [if_pos hw]
  exact wp_app w s x t ho base e i z size bytes ht hi hz hsize hby hzs hsz v n xs hs hown lo hi' A m c news hx hr h1 h63 hbytes hbase h
end
/-- the slice holds these nodes, in memory of the call's own -/
def OwnN (w : World) (B : Nat) (v : Value) (l : List (Nd × Leaf)) : Prop := w.ownsRow B 37 7 v l.length (allCells l)
theorem OwnN.nodesIn {w : World} {B n c : Nat} {A : Option Addr} {l : List (Nd × Leaf)} {lo hi : Nat} (h : OwnN w B (.slice A n c) l) (hn : l.length = n) (hl : ∀ p ∈ l, LeafIn w lo hi p.1 p.2) (hlo : lo ≤ B) (hhi : w.heap.size ≤ hi) : NodesIn w lo hi A n c (l.map (·.1)) := by
  subst hn
  have hr := own_row h
  refine ⟨by simp, hr.2.1, hr.2.2.1, fun h0 => ?_⟩
  obtain ⟨b, o, hA, h1, h2, hc⟩ := hr.2.2.2 h0
  refine ⟨b, o, hA, by omega, by omega, fun i => (l.getD i (l[0]'h0)).2, fun i nd hi' => ?_⟩
  rw [List.getElem?_map] at hi'
  obtain ⟨p, hp, rfl⟩ := Option.map_eq_some_iff.1 hi'
  have hg : l.getD i (l[0]'h0) = p := by rw [List.getD_eq_getElem?_getD, hp]; rfl
  simp only [hg]
  refine ⟨?_, hl p (List.mem_of_getElem? hp)⟩
  have key : ∀ j u, j < 7 → (ndCells p)[j]? = some u → w.cell? ⟨b, o + i * 7 + j, none⟩ = some u := by
    intro j u hj hu
    have := hc (i * 7 + j) u (by unfold allCells; rw [flatN_get ndCells_len l i p hp j hj]; exact hu)
    rwa [Nat.add_assoc]
  exact ⟨key 0 _ (by omega) rfl, key 1 _ (by omega) rfl, key 2 _ (by omega) rfl, key 3 _ (by omega) rfl, key 4 _ (by omega) rfl, key 5 _ (by omega) rfl, key 6 _ (by omega) rfl⟩
end Go.Proofs.YtdeoblhdojbbbaaDoor
namespace Go.Proofs.YtdeoblhdojbbbaaDoor
open Go Go.RowKit Go.Sort Go.ChangeShapes Go.WideShapes Go.Deep Go.Joins
set_option linter.unusedVariables false
theorem cell_spot {w : World} {a : Addr} {u : Value} (h : w.cell? a = some u) : a.spot = none := by
  unfold World.cell? at h
  split at h
  · split at h
    · cases h
    · rename_i hs
      cases ha : a.spot with
      | none => rfl
      | some k => rw [ha] at hs; simp at hs
  · cases h
theorem add_zero_ (a : Addr) : a.add 0 = a := by unfold Addr.add; simp
theorem addr_plain {a : Addr} (h : a.spot = none) : a = ⟨a.block, a.off, none⟩ := by
  obtain ⟨b, o, s⟩ := a
  obtain rfl : s = none := h
  rfl
/-- cells of an own kind, by the elements' index -/
theorem flat_cells {α : Type} {w : World} {f : α → List Value} {s : Nat} (hs : ∀ a, (f a).length = s) (h0 : 0 < s) (l : List α) (a : Addr)
    (h : ∀ i p, l[i]? = some p → ∀ r u, (f p)[r]? = some u → w.cell? (a.add (i * s + r)) = some u) : ∀ j u, (l.flatMap f)[j]? = some u → w.cell? (a.add j) = some u := by
  intro j u hj
  have hl : j < l.length * s := by rw [← flatN_len hs l]; exact (List.getElem?_eq_some_iff.1 hj).1
  have hd : j / s < l.length := Nat.div_lt_of_lt_mul (by rwa [Nat.mul_comm] at hl)
  have hr : j % s < s := Nat.mod_lt _ h0
  have he : j / s * s + j % s = j := by rw [Nat.mul_comm]; exact Nat.div_add_mod j s
  have hp : l[j / s]? = some l[j / s] := List.getElem?_eq_getElem hd
  have := h (j / s) _ hp (j % s) u (by rw [← flatN_get hs l (j / s) _ hp _ hr, he]; exact hj)
  rwa [he] at this
theorem row_of {w : World} {base n c size : Nat} {a : Addr} {xs : List Value} (hlen : xs.length = n * size) (h0 : 0 < size) (hn : n ≤ c) (hm : c ≤ maxLen) (hb : base ≤ a.block)
    (hc : ∀ j u, xs[j]? = some u → w.cell? (a.add j) = some u) : Row w base w.heap.size size (some a) n c xs := by
  refine ⟨hlen, hn, hm, fun hp => ?_⟩
  have hl : 0 < xs.length := by rw [hlen]; exact Nat.mul_pos hp h0
  have h1 := hc 0 _ (List.getElem?_eq_getElem hl)
  rw [add_zero_] at h1
  have ha := addr_plain (cell_spot h1)
  have hlt := block_lt_of_cell h1
  refine ⟨a.block, a.off, by rw [← ha], hb, hlt, fun j u hu => ?_⟩
  · have := hc j u hu
    rw [ha, Addr.add_lit] at this; exact this
section
variable {H : Type}
end
section
variable {H : Type} {enc : TypeId × Value → H} {w : World} {base : Nat} {spare : Nat → Bool} {held : Bool}
instance ndLeafInhabited : Inhabited (Nd × Leaf) := ⟨(⟨0, ByteArray.empty, 0, ByteArray.empty, [], [], []⟩, ⟨⟨none, 0, 0⟩, ⟨none, 0, 0⟩, ⟨none, 0, 0⟩⟩)⟩
end
section
variable {H : Type} {enc : TypeId × Value → H} {P : Program}
/-- what the row asks behind the call, where all that was there before lies as it lay: the same readings again -/
theorem post_read {f : Func} {s : ChangeSpec} {W W' : World} {args : Array Value} {v : Value} {ds gs : List (DataW H)} {before q : List MemPlace} (hW : DataW.Whole enc P f.params.toList s.vars false W args.toList ds gs before)
    (hres : DataW.TrodAll enc P W' W.heap.size (fun _ => false) false f.resultTypes.toList (v.resultList f.resultTypes.size) (s.fn H (ds ++ gs)).results [])
    (hargs : DataW.TrodAll enc P W' 0 (fun b => decide (b < W.heap.size)) true f.params.toList args.toList (s.fn H (ds ++ gs)).args q)
    (hvars : DataW.TrodVars enc P W' (fun b => decide (b < W.heap.size)) s.vars (s.fn H (ds ++ gs)).vars []) (hb : Below W.heap.size W W') :
    s.post enc P f false true false false W args v W' :=
  ⟨ds, gs, before, [], q, [], hW, hres, hargs, hvars, hb.frame _, fun h => by cases h⟩
end
end Go.Proofs.YtdeoblhdojbbbaaDoor
namespace Go.Proofs.YtdeoblhdojbbbaaDoor
open Go Go.RowKit
set_option linter.unusedVariables false
def letB (n : Int) : Bool := decide (65 ≤ n ∧ n ≤ 90) || decide (97 ≤ n ∧ n ≤ 122)
def innB (n : Int) : Bool := letB n || decide (48 ≤ n ∧ n ≤ 57) || n == 95
def innC (c : UInt8) : Bool := innB (c.toNat : Int)
def nameL : List UInt8 → Bool
  | [] => false
  | c :: r => decide (r.length < 32) && letB (c.toNat : Int) && r.all innC
def stripL : List UInt8 → List UInt8
  | [] => []
  | c :: r => if c = 63 then r else c :: r
def wordL (l : List UInt8) : Bool := nameL (stripL l)
def wordB (s : ByteArray) : Bool := wordL s.data.toList
theorem toList_eq (s : ByteArray) : s.data.toList.length = s.size := by rw [Array.length_toList]; rfl
theorem drop_get' (s : ByteArray) (k : Nat) (h : k < s.size) : s.data.toList.drop k = s[k] :: s.data.toList.drop (k + 1) := by
  rw [List.drop_eq_getElem_cons (by simpa using h)]; rfl
theorem drop_nil' (s : ByteArray) (k : Nat) (h : ¬ k < s.size) : s.data.toList.drop k = [] := List.drop_eq_nil_of_le (by rw [toList_eq]; omega)
theorem behind1 (s : ByteArray) : (s.extract 1 s.size).data.toList = s.data.toList.drop 1 := by
  rw [Lib.extract_data, List.take_of_length_le (by rw [List.length_drop, toList_eq]; omega)]
theorem behind1_size (s : ByteArray) (h : 0 < s.size) : (s.extract 1 s.size).size + 1 = s.size := by
  rw [← toList_eq, behind1, List.length_drop, toList_eq]; omega
theorem name_eq (s : ByteArray) (h : 0 < s.size) : nameL s.data.toList = (decide (s.size ≤ 32) && letB (s[0].toNat : Int) && (s.data.toList.drop 1).all innC) := by
  have e : s.data.toList = s[0] :: s.data.toList.drop 1 := by have := drop_get' s 0 h; simpa using this
  have hl := toList_eq s
  rw [e] at hl
  rw [e, nameL]
  simp only [List.length_cons, List.drop_succ_cons, List.drop_zero] at hl ⊢
  congr 2
  rw [Bool.eq_iff_iff]; simp; omega
theorem name_nil (s : ByteArray) (h : ¬ 0 < s.size) : nameL s.data.toList = false := by
  rw [List.length_eq_zero_iff.1 (by rw [toList_eq]; omega : s.data.toList.length = 0)]; rfl
theorem word_q (s : ByteArray) (h : 0 < s.size) (hc : s[0].toNat = 63) : wordB s = nameL (s.extract 1 s.size).data.toList := by
  have e : s.data.toList = s[0] :: s.data.toList.drop 1 := by have := drop_get' s 0 h; simpa using this
  rw [behind1]
  unfold wordB wordL
  conv => lhs; rw [e]
  rw [stripL, if_pos (UInt8.toNat_inj.1 hc)]
theorem word_p (s : ByteArray) (h : ∀ h : 0 < s.size, s[0].toNat ≠ 63) : wordB s = nameL s.data.toList := by
  unfold wordB wordL
  by_cases h0 : 0 < s.size
  · have e : s.data.toList = s[0] :: s.data.toList.drop 1 := by have := drop_get' s 0 h0; simpa using this
    have : stripL s.data.toList = s.data.toList := by
      conv => lhs; rw [e]
      rw [stripL, if_neg (fun hc => h h0 (by rw [hc]; rfl)), ← e]
    rw [this]
  · rw [List.length_eq_zero_iff.1 (by rw [toList_eq]; omega : s.data.toList.length = 0)]; rfl
theorem ret_bool {a b : Bool} (h : a = b) : Ending.returned (.bool a) = .returned (.bool b) := by rw [h]
theorem ret_int {k : IntKind} {a b : Int} (h : a = b) : Ending.returned (.int k a) = .returned (.int k b) := by rw [h]
end Go.Proofs.YtdeoblhdojbbbaaDoor

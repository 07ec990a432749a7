/-
  MEMORY OF THE CALL's OWN: slices that were built, their cells, what they read as; lists that were lent, with a mark behind.
  WALKS: a model lent, with marks in the room behind its lists.
  WALKS: over.
  WALKS: the closures that list the nodes at which they are called.
  WALKS: plain of the document.
  WALKS: below of the document.
  WALKS: Right of the document.
  WALKS: two lists are the same.
-/
import Derived.Test.YtbkmdlfenbfdlaaGreatZC4
import Derived.Deep.AppendLies
import Derived.Deep.RegionHeld3
import Derived.Maps.AppendAt
import Derived.Deep.RegionLaw
import Derived.Deep.DeepCutAuto
import Derived.Deep.DrawnRows
import Derived.Deep.DeepMust
namespace Go.Proofs.YtbkmdlfenbfdlaaGreat
open Go Go.RowKit Go.Sort
set_option linter.unusedVariables false
theorem flatN_get {α : Type} {f : α → List Value} {s : Nat} (hs : ∀ a, (f a).length = s) (l : List α) : ∀ (i : Nat) (p : α), l[i]? = some p → ∀ j, j < s → (l.flatMap f)[i * s + j]? = (f p)[j]? := by
  induction l with
  | nil => intro i p h; simp at h
  | cons q l ih =>
    intro i p h j hj
    have hq := hs q
    rw [List.flatMap_cons]
    match i, h with
    | 0, h =>
      obtain rfl : q = p := by simpa using h
      rw [Nat.zero_mul, Nat.zero_add, List.getElem?_append_left (by omega)]
    | i + 1, h =>
      have := ih i p (by simpa using h) j hj
      rw [Nat.succ_mul, List.getElem?_append_right (by omega), hq]
      rw [show i * s + s + j - s = i * s + j from by omega]
      exact this
theorem flatN_len {α : Type} {f : α → List Value} {s : Nat} (hs : ∀ a, (f a).length = s) (l : List α) : (l.flatMap f).length = l.length * s := by
  induction l with
  | nil => simp
  | cons q l ih => rw [List.flatMap_cons, List.length_append, ih, hs, List.length_cons, Nat.succ_mul]; omega
/-- a node's seven cells -/
def ndCells (p : Nd × Leaf) : List Value := [.int .i64 p.1.id, .string p.1.con, .int .i64 p.1.par, .string p.1.role, .slice p.2.p.A p.2.p.n p.2.p.c, .slice p.2.k.A p.2.k.n p.2.k.c, .slice p.2.r.A p.2.r.n p.2.r.c]
theorem ndCells_len (p : Nd × Leaf) : (ndCells p).length = 7 := rfl
def allCells (l : List (Nd × Leaf)) : List Value := l.flatMap ndCells
theorem allCells_len (l : List (Nd × Leaf)) : (allCells l).length = l.length * 7 := flatN_len ndCells_len l
theorem allCells_one (l : List (Nd × Leaf)) : ∀ u ∈ allCells l, u.oneCell' = true := by
  intro u hu
  obtain ⟨p, _, hp⟩ := List.mem_flatMap.1 hu
  simp only [ndCells, List.mem_cons, List.not_mem_nil, or_false] at hp
  rcases hp with rfl | rfl | rfl | rfl | rfl | rfl | rfl <;> rfl
theorem propCells_one (l : List (ByteArray × ByteArray)) : ∀ u ∈ propCells l, u.oneCell' = true := by
  intro u hu
  obtain ⟨p, _, hp⟩ := List.mem_flatMap.1 hu
  simp only [List.mem_cons, List.not_mem_nil, or_false] at hp
  rcases hp with rfl | rfl <;> rfl
theorem refCells_one (l : List (ByteArray × Int)) : ∀ u ∈ refCells l, u.oneCell' = true := by
  intro u hu
  obtain ⟨p, _, hp⟩ := List.mem_flatMap.1 hu
  simp only [List.mem_cons, List.not_mem_nil, or_false] at hp
  rcases hp with rfl | rfl <;> rfl
theorem intCells_one (l : List Int) : ∀ u ∈ intCells l, u.oneCell' = true := by
  intro u hu
  obtain ⟨p, _, rfl⟩ := List.mem_map.1 hu
  rfl
section
variable {w w' : World} {B : Nat} {e : TypeId} {size n : Nat} {v : Value} {xs : List Value}
/-- an own row reads as a row -/
theorem own_row {A : Option Addr} {c : Nat} (h : w.ownsRow B e size (.slice A n c) n xs) : Row w B w.heap.size size A n c xs := by
  refine ⟨h.1, ?_⟩
  rcases h.2 with ⟨hv, hn⟩ | ⟨g, cap, cur, hv, hb, hg, hn, hm, _, _⟩
  · injection hv with h1 h2 h3
    subst hn
    exact ⟨by omega, by unfold maxLen; omega, fun h => absurd h (by omega)⟩
  · injection hv with h1 h2 h3
    subst h3
    refine ⟨hn, hm, fun h0 => ⟨g, 0, h1, hb, (Array.getElem?_eq_some_iff.1 hg).1, fun j u hu => ?_⟩⟩
    subst h1
    have := World.ownsRow.cells h (g := g) rfl j u hu
    simpa [Addr.add_lit] using this
theorem own_after (h : w.ownsRow B e size v n xs) (hb : Below w.heap.size w w') : w'.ownsRow B e size v n xs := by
  refine ⟨h.1, ?_⟩
  rcases h.2 with hn | ⟨g, cap, cur, rfl, hbg, hgg, rest⟩
  · exact .inl hn
  · refine .inr ⟨g, cap, cur, rfl, hbg, ?_, rest⟩
    rw [hb.block g (Array.getElem?_eq_some_iff.1 hgg).1]
    exact hgg
/-- .. while a block of another type is written -/
theorem own_other {g : Nat} {t : TypeId} {cs : Array Value} (h : w.ownsRow B e size v n xs) (hg : Blk w g t cs) (hne : e ≠ t) (i : Nat) (u : Value) : (w.setCell ⟨g, i, none⟩ u).ownsRow B e size v n xs := by
  refine ⟨h.1, ?_⟩
  rcases h.2 with hn | ⟨g', cap, cur, rfl, hbg, hgg, rest⟩
  · exact .inl hn
  · refine .inr ⟨g', cap, cur, rfl, hbg, ?_, rest⟩
    have hne' : g' ≠ g := Blk.ne_ (t := e) hgg hg hne
    rw [Below.heap_setCell _ ⟨g, i, none⟩ _ _ hne']
    exact hgg
theorem own_blk_ne {g : Nat} {t : TypeId} {cs : Array Value} (h : w.ownsRow B e size v n xs) (hg : Blk w g t cs) (hne : e ≠ t) : v.ownBlock ≠ some g := by
  rcases h.2 with ⟨rfl, _⟩ | ⟨g', cap, cur, rfl, _, hh, _⟩
  · simp [Value.ownBlock]
  · intro he
    have : g' = g := by simpa [Value.ownBlock] using he
    subst this
    exact Blk.ne_ (t := e) hh hg hne rfl
theorem own_own_ne {B' : Nat} {e' : TypeId} {size' n' : Nat} {v' : Value} {xs' : List Value} (h : w.ownsRow B e size v n xs) (h' : w.ownsRow B' e' size' v' n' xs') (hne : e ≠ e') : v.ownBlock = none ∨ v.ownBlock ≠ v'.ownBlock := by
  rcases h.2 with ⟨rfl, _⟩ | ⟨g, cap, cur, rfl, _, hh, _⟩
  · exact .inl rfl
  · right
    rcases h'.2 with ⟨rfl, _⟩ | ⟨g', cap', cur', rfl, _, hh', _⟩
    · simp [Value.ownBlock]
    · intro he
      have : g = g' := by simpa [Value.ownBlock] using he
      subst this
      exact Blk.ne_ (t := e) hh hh' hne rfl
theorem own_mono {B' : Nat} (h : w.ownsRow B e size v n xs) (hB : B' ≤ B) : w.ownsRow B' e size v n xs := by
  refine ⟨h.1, ?_⟩
  rcases h.2 with hn | ⟨g, cap, cur, hv, hb, rest⟩
  · exact .inl hn
  · exact .inr ⟨g, cap, cur, hv, by omega, rest⟩
/-- the first ones of an own row -/
theorem own_take {A : Option Addr} {c : Nat} {k : Nat} (h : w.ownsRow B e size (.slice A n c) n xs) (hk : k ≤ n) (hA : A ≠ none) : w.ownsRow B e size (.slice A k c) k (xs.take (k * size)) := by
  have hle : k * size ≤ n * size := Nat.mul_le_mul_right _ hk
  refine ⟨by rw [List.length_take, h.1]; omega, ?_⟩
  rcases h.2 with ⟨hv, hn⟩ | ⟨g, cap, cur, hv, hb, hg, hn, hm, hs, ht⟩
  · injection hv with h1; exact absurd h1 hA
  · injection hv with h1 h2 h3
    subst h1 h3
    refine .inr ⟨g, c, cur, rfl, hb, hg, by omega, hm, hs, ?_⟩
    rw [← ht, List.take_take, Nat.min_eq_left hle]
end
/-- a block that is known whole, as a row -/
theorem row_blk {w : World} {g n c size : Nat} {e : TypeId} {fr : Nat × Nat} {cs : Array Value} (hg : w.heap[g]? = some (.cells cs e fr)) (hs : cs.size = n * size) (hn : n ≤ c) (hc : c ≤ maxLen) : Row w g (g + 1) size (some ⟨g, 0, none⟩) n c cs.toList :=
  ⟨by simpa using hs, hn, hc, fun _ => ⟨g, 0, rfl, Nat.le_refl _, Nat.lt_succ_self _, fun j u hu => by
    rw [cell_of_row w g (0 + j) cs e fr hg, Nat.zero_add]; simpa using hu⟩⟩
section
variable {P : Program} (w : World)
theorem run_app_nil (base : Nat) (t ty e : TypeId) (i : TypeInfo) (size : Nat) (ht : P.underlying t = some (.slice e)) (hi : P.info? e = some i)
    (v : Value) (n : Nat) (xs : List Value) (hown : w.ownsRow base e size v n xs) (c : Nat) : (Builtin.append_ #[t, t] ty #[v, .slice none 0 c]).run P w = .ok v w := by
  rcases hown.2 with ⟨rfl, rfl⟩ | ⟨g, cap, cur, rfl, _, _, hnc, _⟩
  · simp [Builtin.append_, run_underlying ht, sizeOf, typeInfo, hi, Builtin.lenOf, Builtin.firstCells]
  · simp [Builtin.append_, run_underlying ht, sizeOf, typeInfo, hi, Builtin.lenOf, Builtin.firstCells, hnc, storeCells]
theorem run_app (base : Nat) (t ty e : TypeId) (i : TypeInfo) (z : Value) (size bytes : Nat) (ht : P.underlying t = some (.slice e)) (hi : P.info? e = some i) (hz : i.zero = some z)
    (hsize : i.size = size) (hby : i.bytes = bytes) (hzs : z.cells.size = size) (hsz : 0 < size)
    (v : Value) (n : Nat) (xs : List Value) (hown : w.ownsRow base e size v n xs)
    (lo hi' : Nat) (A : Option Addr) (m c : Nat) (news : List Value) (hr : Row w lo hi' size A m c news) (h1 : ∀ u ∈ news, u.oneCell' = true)
    (h63 : n + m ≤ maxLen) (hbytes : (n + m) * bytes ≤ 140737488355328) (hbase : base ≤ w.heap.size) :
    ∃ v' w', (Builtin.append_ #[t, t] ty #[v, .slice A m c]).run P w = .ok v' w' ∧ w'.ownsRow base e size v' (n + m) (xs ++ news) ∧ w.grownBy w' v.ownBlock ∧
      (v'.ownBlock = v.ownBlock ∨ v'.ownBlock = some w.heap.size) := by
  rcases A with _ | ad
  · have hm : m = 0 := by
      rcases Nat.eq_zero_or_pos m with h0 | h0
      · exact h0
      · obtain ⟨b, o, h, _⟩ := hr.2.2.2 h0
        cases h
    subst hm
    have hn : news = [] := List.eq_nil_of_length_eq_zero (by simpa using hr.1)
    subst hn
    exact ⟨v, w, run_app_nil w base t ty e i size ht hi v n xs hown c, by simpa using hown, World.grownBy.refl w _, .inl rfl⟩
  · have hcells : ∀ j u, news[j]? = some u → w.cell? (ad.add j) = some u := by
      intro j u hu
      rcases Nat.eq_zero_or_pos m with h0 | h0
      · subst h0
        have hn : news = [] := List.eq_nil_of_length_eq_zero (by simpa using hr.1)
        subst hn
        simp at hu
      · obtain ⟨b, o, h, _, _, hc⟩ := hr.2.2.2 h0
        injection h with h
        subst h
        rw [Addr.add_lit]
        exact hc j u hu
    obtain ⟨v', w', hrun, h2, h3, _, h5⟩ := run_append_own_at (P := P) w base t ty e i z size bytes ht hi hz hsize hby hzs hsz v n xs hown ad m c news hr.1 hcells h1 h63 hbytes hbase
    exact ⟨v', w', hrun, h2, h3, h5⟩
theorem wp_app {o : Oper} {a : Act} {K : Act → World → Prop} {Q : Exit → Act → World → Prop} (s x : Operand) (t : TypeId)
    (ho : o.op = .call { callee := .builtin .append, args := #[s, x], argTypes := #[t, t] })
    (base : Nat) (e : TypeId) (i : TypeInfo) (z : Value) (size bytes : Nat) (ht : P.underlying t = some (.slice e)) (hi : P.info? e = some i) (hz : i.zero = some z)
    (hsize : i.size = size) (hby : i.bytes = bytes) (hzs : z.cells.size = size) (hsz : 0 < size)
    (v : Value) (n : Nat) (xs : List Value) (hs : a.eval s = v) (hown : w.ownsRow base e size v n xs)
    (lo hi' : Nat) (A : Option Addr) (m c : Nat) (news : List Value) (hx : a.eval x = .slice A m c) (hr : Row w lo hi' size A m c news) (h1 : ∀ u ∈ news, u.oneCell' = true)
    (h63 : n + m ≤ maxLen) (hbytes : (n + m) * bytes ≤ 140737488355328) (hbase : base ≤ w.heap.size)
    (h : ∀ v' w', w'.ownsRow base e size v' (n + m) (xs ++ news) → w.grownBy w' v.ownBlock → (v'.ownBlock = v.ownBlock ∨ v'.ownBlock = some w.heap.size) → K (a.put o.dst v') w') : o.wp P a w K Q := by
  obtain ⟨v', w', hrun, h2, h3, h4⟩ := run_app (P := P) w base t o.type e i z size bytes ht hi hz hsize hby hzs hsz v n xs hown lo hi' A m c news hr h1 h63 hbytes hbase
  unfold Oper.wp execOp
  simp only [ho, resolve, invoke, builtin, Sem.run_bind, Sem.run_pure, Result.andThen_ok, List.map_toArray, List.map_cons, List.map_nil, hs, hx, hrun]
  exact h v' w' h2 h3 h4
/-- append as the walk takes it, in a plain region -/
theorem wpList_app {ops : Array Oper} {rest : List Oper} {o : Oper} {a : Act} {Q : Exit → Act → World → Prop} (hgd : o.guard = none) (s x : Operand) (t : TypeId)
    (ho : o.op = .call { callee := .builtin .append, args := #[s, x], argTypes := #[t, t] })
    (base : Nat) (e : TypeId) (i : TypeInfo) (z : Value) (size bytes : Nat) (ht : P.underlying t = some (.slice e)) (hi : P.info? e = some i) (hz : i.zero = some z)
    (hsize : i.size = size) (hby : i.bytes = bytes) (hzs : z.cells.size = size) (hsz : 0 < size)
    (v : Value) (n : Nat) (xs : List Value) (hs : a.eval s = v) (hown : w.ownsRow base e size v n xs)
    (lo hi' : Nat) (A : Option Addr) (m c : Nat) (news : List Value) (hx : a.eval x = .slice A m c) (hr : Row w lo hi' size A m c news) (h1 : ∀ u ∈ news, u.oneCell' = true)
    (h63 : n + m ≤ maxLen) (hbytes : (n + m) * bytes ≤ 140737488355328) (hbase : base ≤ w.heap.size)
    (h : ∀ v' w', w'.ownsRow base e size v' (n + m) (xs ++ news) → w.grownBy w' v.ownBlock → (v'.ownBlock = v.ownBlock ∨ v'.ownBlock = some w.heap.size) → wpList P ops Q rest (a.put o.dst v') w') : wpList P ops Q (o :: rest) a w :=
  wpList_plain hgd fun _ hK => wp_app w s x t ho base e i z size bytes ht hi hz hsize hby hzs hsz v n xs hs hown lo hi' A m c news hx hr h1 h63 hbytes hbase fun v' w' h2 h3 h4 => hK _ _ (h v' w' h2 h3 h4)
/-- .. as a step of a region that draws its order -/
theorem step_app {ops : Array Oper} {o : Oper} {a : Act} {K : Act → World → Prop} {Q : Exit → Act → World → Prop} {E : Prop} (hgd : o.guard = none) (s x : Operand) (t : TypeId)
    (ho : o.op = .call { callee := .builtin .append, args := #[s, x], argTypes := #[t, t] })
    (base : Nat) (e : TypeId) (i : TypeInfo) (z : Value) (size bytes : Nat) (ht : P.underlying t = some (.slice e)) (hi : P.info? e = some i) (hz : i.zero = some z)
    (hsize : i.size = size) (hby : i.bytes = bytes) (hzs : z.cells.size = size) (hsz : 0 < size)
    (v : Value) (n : Nat) (xs : List Value) (hs : a.eval s = v) (hown : w.ownsRow base e size v n xs)
    (lo hi' : Nat) (A : Option Addr) (m c : Nat) (news : List Value) (hx : a.eval x = .slice A m c) (hr : Row w lo hi' size A m c news) (h1 : ∀ u ∈ news, u.oneCell' = true)
    (h63 : n + m ≤ maxLen) (hbytes : (n + m) * bytes ≤ 140737488355328) (hbase : base ≤ w.heap.size)
    (h : ∀ v' w', w'.ownsRow base e size v' (n + m) (xs ++ news) → w.grownBy w' v.ownBlock → (v'.ownBlock = v.ownBlock ∨ v'.ownBlock = some w.heap.size) → K (a.put o.dst v') w') :
    if Region.wanted o (yielded ops a.tmps) = true then Oper.wp P o a w K Q else E := by
  have hw : Region.wanted o (yielded ops a.tmps) = true := by simp [Region.wanted, hgd]
  rw [if_pos hw]
  exact wp_app w s x t ho base e i z size bytes ht hi hz hsize hby hzs hsz v n xs hs hown lo hi' A m c news hx hr h1 h63 hbytes hbase h
end
/-- the slice holds these nodes, in memory of the call's own -/
def OwnN (w : World) (B : Nat) (v : Value) (l : List (Nd × Leaf)) : Prop := w.ownsRow B 41 7 v l.length (allCells l)
theorem OwnN.nodesIn {w : World} {B n c : Nat} {A : Option Addr} {l : List (Nd × Leaf)} {lo hi : Nat} (h : OwnN w B (.slice A n c) l) (hn : l.length = n) (hl : ∀ p ∈ l, LeafIn w lo hi p.1 p.2) (hlo : lo ≤ B) (hhi : w.heap.size ≤ hi) : NodesIn w lo hi A n c (l.map (·.1)) := by
  subst hn
  have hr := own_row h
  refine ⟨by simp, hr.2.1, hr.2.2.1, fun h0 => ?_⟩
  obtain ⟨b, o, hA, h1, h2, hc⟩ := hr.2.2.2 h0
  refine ⟨b, o, hA, by omega, by omega, fun i => (l.getD i (l[0]'h0)).2, fun i nd hi' => ?_⟩
  rw [List.getElem?_map] at hi'
  obtain ⟨p, hp, rfl⟩ := Option.map_eq_some_iff.1 hi'
  have hg : l.getD i (l[0]'h0) = p := by rw [List.getD_eq_getElem?_getD, hp]; rfl
  simp only [hg]
  refine ⟨?_, hl p (List.mem_of_getElem? hp)⟩
  have key : ∀ j u, j < 7 → (ndCells p)[j]? = some u → w.cell? ⟨b, o + i * 7 + j, none⟩ = some u := by
    intro j u hj hu
    have := hc (i * 7 + j) u (by unfold allCells; rw [flatN_get ndCells_len l i p hp j hj]; exact hu)
    rwa [Nat.add_assoc]
  exact ⟨key 0 _ (by omega) rfl, key 1 _ (by omega) rfl, key 2 _ (by omega) rfl, key 3 _ (by omega) rfl, key 4 _ (by omega) rfl, key 5 _ (by omega) rfl, key 6 _ (by omega) rfl⟩
end Go.Proofs.YtbkmdlfenbfdlaaGreat
namespace Go.Proofs.YtbkmdlfenbfdlaaGreat
open Go Go.RowKit Go.Sort
set_option linter.unusedVariables false
attribute [local go_sem ↓] Go.wp_at_zero Go.wp_at_succ
theorem propInfo : (Tryz.prog.info? 94).map (fun i => (i.zero, i.size, i.bytes)) = some (some (.agg #[.string ByteArray.empty, .string ByteArray.empty]), 2, 32) := by kernel_rfl
theorem refInfo : (Tryz.prog.info? 60).map (fun i => (i.zero, i.size, i.bytes)) = some (some (.agg #[.string ByteArray.empty, .int .i64 0]), 2, 24) := by kernel_rfl
theorem nodeInfo : (Tryz.prog.info? 41).map (fun i => (i.zero, i.size, i.bytes)) = some (some (.agg #[.int .i64 0, .string ByteArray.empty, .int .i64 0, .string ByteArray.empty, .slice none 0 0, .slice none 0 0, .slice none 0 0]), 7, 120) := by kernel_rfl
def markS : ByteArray := ⟨#[109, 97, 114, 107]⟩
/-- the slice s of n elements holds xs, and behind its end, in its room, the mark -/
def MarkIn (w : World) (B : Nat) (e : TypeId) (size : Nat) (s : Sl) (n : Nat) (xs mark : List Value) : Prop :=
  s.n = n ∧ s.A ≠ none ∧ w.ownsRow B e size (.slice s.A (n + 1) s.c) (n + 1) (xs ++ mark)
theorem MarkIn.after {w w' : World} {B : Nat} {e : TypeId} {size n : Nat} {s : Sl} {xs mark : List Value} (h : MarkIn w B e size s n xs mark) (hb : Below w.heap.size w w') : MarkIn w' B e size s n xs mark := ⟨h.1, h.2.1, own_after h.2.2 hb⟩
theorem MarkIn.other {w : World} {B : Nat} {e : TypeId} {size n : Nat} {s : Sl} {xs mark : List Value} (h : MarkIn w B e size s n xs mark) {g : Nat} {t : TypeId} {cs : Array Value} (hg : Blk w g t cs) (hne : e ≠ t) (i : Nat) (u : Value) : MarkIn (w.setCell ⟨g, i, none⟩ u) B e size s n xs mark := ⟨h.1, h.2.1, own_other h.2.2 hg hne i u⟩
theorem MarkIn.kept {w w' : World} {B : Nat} {e : TypeId} {size n : Nat} {s : Sl} {xs mark : List Value} (h : MarkIn w B e size s n xs mark) {row : Option Nat} (hg : w.grownBy w' row) (hne : Value.ownBlock (.slice s.A (n + 1) s.c) ≠ row) : MarkIn w' B e size s n xs mark := ⟨h.1, h.2.1, World.ownsRow.kept h.2.2 hg (.inr hne)⟩
theorem MarkIn.len {w : World} {B : Nat} {e : TypeId} {size n n' : Nat} {s : Sl} {xs mark : List Value} (h : MarkIn w B e size s n xs mark) (hn : n = n') : MarkIn w B e size s n' xs mark := hn ▸ h
theorem MarkIn.mono {w : World} {B B' : Nat} {e : TypeId} {size n : Nat} {s : Sl} {xs mark : List Value} (h : MarkIn w B e size s n xs mark) (hB : B' ≤ B) : MarkIn w B' e size s n xs mark := ⟨h.1, h.2.1, own_mono h.2.2 hB⟩
theorem MarkIn.ne {w : World} {B : Nat} {e : TypeId} {size n : Nat} {s : Sl} {xs mark : List Value} (h : MarkIn w B e size s n xs mark) {B' : Nat} {e' : TypeId} {size' n' : Nat} {v' : Value} {xs' : List Value} (h' : w.ownsRow B' e' size' v' n' xs') (hne : e ≠ e') : Value.ownBlock (.slice s.A (n + 1) s.c) ≠ v'.ownBlock := by
  rcases own_own_ne h.2.2 h' hne with h0 | h0
  · rcases h.2.2.2 with ⟨_, h1⟩ | ⟨g, cap, cur, hv, _⟩
    · omega
    · rw [hv] at h0; simp [Value.ownBlock] at h0
  · exact h0
structure LentLeaf (w : World) (B : Nat) (nd : Nd) (L : Leaf) : Prop where
  p : MarkIn w B 94 2 L.p nd.props.length (propCells nd.props) [.string markS, .string ⟨#[]⟩]
  k : MarkIn w B 3 1 L.k nd.kids.length (intCells nd.kids) [.int .i64 (-7)]
  r : MarkIn w B 60 2 L.r nd.refs.length (refCells nd.refs) [.string markS, .int .i64 0]
  sz : SzN nd
theorem LentLeaf.after {w w' : World} {B : Nat} {nd : Nd} {L : Leaf} (h : LentLeaf w B nd L) (hb : Below w.heap.size w w') : LentLeaf w' B nd L := ⟨h.p.after hb, h.k.after hb, h.r.after hb, h.sz⟩
theorem LentLeaf.other {w : World} {B : Nat} {nd : Nd} {L : Leaf} (h : LentLeaf w B nd L) {g : Nat} {t : TypeId} {cs : Array Value} (hg : Blk w g t cs) (h1 : 94 ≠ t) (h2 : 3 ≠ t) (h3 : 60 ≠ t) (i : Nat) (u : Value) : LentLeaf (w.setCell ⟨g, i, none⟩ u) B nd L := ⟨h.p.other hg h1 i u, h.k.other hg h2 i u, h.r.other hg h3 i u, h.sz⟩
theorem LentLeaf.kept {w w' : World} {B : Nat} {nd : Nd} {L : Leaf} (h : LentLeaf w B nd L) {B' : Nat} {size' n' : Nat} {v' : Value} {xs' : List Value} (h' : w.ownsRow B' 41 size' v' n' xs') (hg : w.grownBy w' v'.ownBlock) : LentLeaf w' B nd L :=
  ⟨h.p.kept hg (h.p.ne h' (by decide)), h.k.kept hg (h.k.ne h' (by decide)), h.r.kept hg (h.r.ne h' (by decide)), h.sz⟩
theorem Blk.drew {w : World} {g : Nat} {t : TypeId} {cs : Array Value} (h : Blk w g t cs) : Blk w.drew g t cs := h
theorem below_drew {B : Nat} {a w : World} (h : Below B a w) : Below B a w.drew := ⟨h.os, h.tape, h.output, h.size, h.block⟩
theorem below_more {W w' : World} (h : Below W.heap.size W w') (o : Obj) : Below W.heap.size W (w'.alloc o) := h.alloc h.size o
theorem below_grows {W w' w'' : World} (h : Below W.heap.size W w') {v : Value} (hg : w'.grownBy w'' v.ownBlock) {e : TypeId} {size n B : Nat} {xs : List Value} (hown : w'.ownsRow B e size v n xs) (hB : W.heap.size ≤ B) : Below W.heap.size W w'' :=
  h.grown hg h.size (fun k hk => Nat.le_trans hB (World.ownsRow.lt hown k hk).1)
theorem own_slice {w : World} {base n size : Nat} {e : TypeId} {v : Value} {xs : List Value} (h : w.ownsRow base e size v (n + 1) xs) : ∃ G cap, v = .slice (some ⟨G, 0, none⟩) (n + 1) cap ∧ n + 1 ≤ cap ∧ cap ≤ maxLen := by
  obtain ⟨_, h2⟩ := h
  rcases h2 with ⟨_, h0⟩ | ⟨G, cap, cur, rfl, r1, r2, r3, r4, _⟩
  · omega
  · exact ⟨G, cap, rfl, r3, r4⟩
/-- append of one element from a new block -/
theorem step_app_mark {P : Program} (w : World) {ops : Array Oper} {o : Oper} {a : Act} {K : Act → World → Prop} {Q : Exit → Act → World → Prop} {E : Prop} (hgd : o.guard = none) (s x : Operand) (t : TypeId)
    (ho : o.op = .call { callee := .builtin .append, args := #[s, x], argTypes := #[t, t] })
    (base : Nat) (e : TypeId) (i : TypeInfo) (z : Value) (size bytes : Nat) (ht : P.underlying t = some (.slice e)) (hi : P.info? e = some i) (hz : i.zero = some z)
    (hsize : i.size = size) (hby : i.bytes = bytes) (hzs : z.cells.size = size) (hsz : 0 < size)
    (v : Value) (n : Nat) (xs : List Value) (hs : a.eval s = v) (hown : w.ownsRow base e size v n xs)
    (gm : Nat) (cs : List Value) (hx : a.eval x = .slice (some ⟨gm, 0, none⟩) 1 1) (hblk : Blk w gm e cs.toArray) (hcs : cs.length = size) (h1 : ∀ u ∈ cs, u.oneCell' = true)
    (h63 : n + 1 ≤ maxLen) (hbytes : (n + 1) * bytes ≤ 140737488355328) (hbase : base ≤ w.heap.size)
    (h : ∀ G cap w', w'.ownsRow base e size (.slice (some ⟨G, 0, none⟩) (n + 1) cap) (n + 1) (xs ++ cs) → (∀ W, Below W.heap.size W w → W.heap.size ≤ base → Below W.heap.size W w') → n + 1 ≤ cap → cap ≤ maxLen → w.grownBy w' v.ownBlock → K (a.put o.dst (.slice (some ⟨G, 0, none⟩) (n + 1) cap)) w') :
    if Region.wanted o (yielded ops a.tmps) = true then Oper.wp P o a w K Q else E := by
  have hr : Row w gm (gm + 1) size (some ⟨gm, 0, none⟩) 1 1 cs := by
    have := row_blk (w := w) (size := size) (n := 1) (c := 1) hblk (by simpa using hcs) (Nat.le_refl _) (by unfold maxLen; omega)
    simpa using this
  refine step_app w hgd s x t ho base e i z size bytes ht hi hz hsize hby hzs hsz v n xs hs hown gm (gm + 1) _ 1 1 cs hx hr h1 h63 hbytes hbase ?_
  intro v' w' h2 h3 _
  obtain ⟨h2l, h2'⟩ := h2
  rcases h2' with ⟨_, h0⟩ | ⟨G, cap, cur, rfl, r1, r2, r3, r4, r5, r6⟩
  · omega
  · exact h G cap w' ⟨h2l, .inr ⟨G, cap, cur, rfl, r1, r2, r3, r4, r5, r6⟩⟩ (fun W hW hWb => below_grows hW h3 hown hWb) r3 r4 h3
/-- what holds in lent, but for the list that grows -/
structure LE (w : World) (next : Int) (A : Option Addr) (n c : Nat) (ov : Value) (l : List (Nd × Leaf)) (wr : World) : Prop where
  md : Blk wr w.heap.size 26 #[.int .i64 next, .slice A n c]
  rs : Blk wr (w.heap.size + 1) 26 #[.int .i64 0, .slice none 0 0]
  out : Blk wr (w.heap.size + 2) 26 #[.int .i64 next, ov]
  leaf : ∀ p ∈ l, LentLeaf wr w.heap.size p.1 p.2
  bel : Below w.heap.size w wr
/-- what holds in the loop of lent -/
structure LW (w : World) (next : Int) (A : Option Addr) (n c : Nat) (ov : Value) (l : List (Nd × Leaf)) (wr : World) : Prop where
  e : LE w next A n c ov l wr
  own : OwnN wr w.heap.size ov l
section
variable {w : World} {next : Int} {A : Option Addr} {n c : Nat} {ov : Value} {l : List (Nd × Leaf)} {X X' : World}
theorem LE.after (h : LE w next A n c ov l X) (hb : Below X.heap.size X X') : LE w next A n c ov l X' :=
  ⟨h.md.after hb, h.rs.after hb, h.out.after hb, fun p hp => (h.leaf p hp).after hb, h.bel.trans (hb.mono h.bel.size)⟩
theorem LW.after (h : LW w next A n c ov l X) (hb : Below X.heap.size X X') : LW w next A n c ov l X' := ⟨h.e.after hb, own_after h.own hb⟩
/-- the list has grown -/
theorem LE.kept (h : LE w next A n c ov l X) (hown : OwnN X w.heap.size ov l) (hg : X.grownBy X' ov.ownBlock) : LE w next A n c ov l X' :=
  ⟨h.md.grown hg (Ne.symm (own_blk_ne hown h.md (by decide))), h.rs.grown hg (Ne.symm (own_blk_ne hown h.rs (by decide))), h.out.grown hg (Ne.symm (own_blk_ne hown h.out (by decide))),
    fun p hp => (h.leaf p hp).kept hown hg, below_grows h.bel hg hown (Nat.le_refl _)⟩
theorem LE.out_set (h : LE w next A n c ov l X) (u : Value) : LE w next A n c u l (X.setCell ⟨w.heap.size + 2, 1, none⟩ u) :=
  ⟨h.md.far (by simp) u, h.rs.far (by simp) u, by simpa using h.out.set_ 1 u,
    fun p hp => (h.leaf p hp).other h.out (by decide) (by decide) (by decide) 1 u, h.bel.setCell (p := ⟨w.heap.size + 2, 1, none⟩) (by simp) u⟩
theorem LW.push {p : Nd × Leaf} {v' : Value} (h : LW w next A n c ov l X) (hg : X.grownBy X' ov.ownBlock) (hown : X'.ownsRow w.heap.size 41 7 v' (l.length + 1) (allCells l ++ ndCells p))
    (hp : LentLeaf X w.heap.size p.1 p.2) : LW w next A n c v' (l ++ [p]) (X'.setCell ⟨w.heap.size + 2, 1, none⟩ v') := by
  have h1 := h.e.kept h.own hg
  have h2 := hp.kept h.own hg
  have h3 := h1.out_set v'
  refine ⟨⟨h3.md, h3.rs, h3.out, fun q hq => ?_, h3.bel⟩, ?_⟩
  · rcases List.mem_append.1 hq with hq | hq
    · exact h3.leaf q hq
    · obtain rfl : q = p := by simpa using hq
      exact h2.other h1.out (by decide) (by decide) (by decide) 1 v'
  · have : OwnN X' w.heap.size v' (l ++ [p]) := by
      unfold OwnN
      have e : allCells (l ++ [p]) = allCells l ++ ndCells p := by simp [allCells]
      rw [e, List.length_append, List.length_singleton]
      exact hown
    exact own_other this h1.out (by decide) 1 v'
end
def markNd : List Value := [.int .i64 (-7), .string ByteArray.empty, .int .i64 0, .string ByteArray.empty, .slice none 0 0, .slice none 0 0, .slice none 0 0]
/-- a model lent: its nodes in own memory, with marks behind each row -/
structure LentAt (w : World) (B : Nat) (A : Option Addr) (n c : Nat) (nds : List Nd) (l : List (Nd × Leaf)) : Prop where
  nds_ : l.map (·.1) = nds
  len : l.length = n
  leaf : ∀ p ∈ l, LentLeaf w B p.1 p.2
  some_ : A ≠ none
  own : w.ownsRow B 41 7 (.slice A (n + 1) c) (n + 1) (allCells l ++ markNd)
  le : n + 1 ≤ c
  max : c ≤ maxLen
/-- what is asked of the world while the last region goes on -/
def S10 (w : World) (next : Int) (A : Option Addr) (n c : Nat) (ov : Value) (l : List (Nd × Leaf)) (w' : World) : Prop :=
  Hid (LE w next A n c ov l w') ∧ w'.cell? ⟨w.heap.size + 1 + 1, 1, none⟩ = some ov ∧ w'.frozen? ⟨w.heap.size + 1 + 1, 1, none⟩ = false ∧ w'.cell? ⟨w.heap.size, 1, none⟩ = some (.slice A n c)
/-- the lists are no longer than a slice that was read can be -/
structure Fits (j : Nat) (nd : Nd) : Prop where
  p : (nd.props.length + j) * 32 ≤ 140737488355328
  k : (nd.kids.length + j) * 8 ≤ 140737488355328
  r : (nd.refs.length + j) * 24 ≤ 140737488355328
end Go.Proofs.YtbkmdlfenbfdlaaGreat
namespace Go.Proofs.YtbkmdlfenbfdlaaGreat
open Go Go.RowKit Go.Sort
set_option linter.unusedVariables false
attribute [local go_sem ↓] Go.wp_at_zero Go.wp_at_succ
theorem run_store_func' {P : Program} {w : World} {a : Addr} (f : Fn) (r : _) (caps : Array Value) (m : _) : (store a (.func f r caps) m).run P w = stored P w a (.func f r caps) m := run_store P w a _ m rfl
attribute [local go_sem] run_store_func'
set_option maxRecDepth 100000 in
set_option maxHeartbeats 3200000 in
theorem over_any (w0 : World) (hi g0 M : Nat) (next : Int) (A : Option Addr) (n c : Nat) (nds : List Nd) (F : FuncId) (caps : Array Value) (Inv : World → List (Int × Nat) → Prop) (V : Visit w0 g0 M A nds F caps Inv)
    (hN : NodesIn w0 0 hi A n c nds) (hh : hi ≤ w0.heap.size) (hg : hi ≤ g0) (hr : Rise nds) (hn : n ≤ 4096) (hI : Inv w0 []) (f : Nat) (ids : List Int) (A' : Option Addr) (n' c' : Nat)
    (hok : OkF nds f ids) (hrow : RowF w0 g0 A' n' c' ids) (hM : (pre nds f 1 ids).length ≤ M) (hf : f ≤ 65) :
    Calls Tryz.prog 31 #[.agg #[.int .i64 next, .slice A n c], .slice A' n' c', .func (.func F) #[] caps] w0 fun e X' => e = .returned (.tuple #[]) ∧ Inv X' (pre nds f 1 ids) := by
  have HDo := Lib.hid (down_any w0 hi g0 M next A n c nds F caps Inv V hN hh hg hr hn w0.heap.size (w0.heap.size + 1) (w0.heap.size + 1 + 1))
  have hB3 : Blk (((w0.alloc (.cells #[.int .i64 next, .slice A n c] 26)).alloc (.cells #[.func (.func F) #[] caps] 68)).alloc (.cells #[.nilFunc] 101)) (w0.heap.size + 1 + 1) 101 #[.nilFunc] := Blk.new' (by simp)
  have HO : Hid (OV next A n c w0.heap.size (w0.heap.size + 1) (w0.heap.size + 1 + 1) F caps Inv [] ((((w0.alloc (.cells #[.int .i64 next, .slice A n c] 26)).alloc (.cells #[.func (.func F) #[] caps] 68)).alloc (.cells #[.nilFunc] 101)).setCell ⟨w0.heap.size + 1 + 1, 0, none⟩ (.func (.func 69) #[] #[.pointer (some ⟨w0.heap.size, 0, none⟩), .pointer (some ⟨w0.heap.size + 1, 0, none⟩), .pointer (some ⟨w0.heap.size + 1 + 1, 0, none⟩)]))) := Lib.hid (by
    have hbel : Below w0.heap.size w0 (((w0.alloc (.cells #[.int .i64 next, .slice A n c] 26)).alloc (.cells #[.func (.func F) #[] caps] 68)).alloc (.cells #[.nilFunc] 101)) := below_more (below_more (below_more (Below.refl _ _) _) _) _
    refine ⟨V.after _ _ _ hI (hbel.setCell (p := ⟨w0.heap.size + 1 + 1, 0, none⟩) (by simp; omega) _), ?_, ?_, ?_⟩
    · exact Blk.far (((Blk.new w0 _ _).alloc _).alloc _) (p := ⟨w0.heap.size + 1 + 1, 0, none⟩) (by simp; omega) _
    · exact Blk.far ((Blk.new' (by simp)).alloc _) (p := ⟨w0.heap.size + 1 + 1, 0, none⟩) (by simp) _
    · exact hB3.set_ 0 _)
  have HB3 := Lib.hid hB3
  clear hB3
  have HOK := Lib.hid hok
  have HRW := Lib.hid hrow
  have HM := Lib.hid hM
  have HV := Lib.hid V
  have HI := Lib.hid hI
  clear hok hrow hM V hI hN
  go_enter Tryz.func31, Tryz.ntmps31
  go_upto_region 2 with (fail)
  generalize (((w0.alloc (.cells #[.int .i64 next, .slice A n c] 26)).alloc (.cells #[.func (.func F) #[] caps] 68)).alloc (.cells #[.nilFunc] 101)) = X3 at HB3 HO ⊢
  have s0 : X3.cell? ⟨w0.heap.size + 1 + 1, 0, none⟩ = some .nilFunc := (HB3.out.cell 0).trans rfl
  have s1 := HB3.out.frozen 0
  have HD0 := Lib.hid (HO.out.d.cell 0)
  go_wp2_with (go_at_call 69; go_must (refine (HDo.out f _ [] ids A' n' c' 1 HO.out HOK.out HRW.out (by have := HM.out; simpa using this) (by omega)).mono ?_; rintro e w5 ⟨rfl, hv5⟩; have HV5 := Lib.hid hv5; clear hv5))
  (try simp only [Exit.inBlock, Exit.then])
  first | refine bodyPost_ret (results_none (by kernel_rfl) _ _ _) rfl ?_ | refine bodyPost_end (results_none (by kernel_rfl) _ _ _) rfl ?_
  exact ⟨rfl, HV5.out.inv⟩
end Go.Proofs.YtbkmdlfenbfdlaaGreat
namespace Go.Proofs.YtbkmdlfenbfdlaaGreat
open Go Go.RowKit Go.Sort
set_option linter.unusedVariables false
attribute [local go_sem ↓] Go.wp_at_zero Go.wp_at_succ
/-- a box with a list of numbers that grows -/
structure IE (w0 : World) (g0 : Nat) (ov : Value) (X : World) : Prop where
  gr : w0.grownBy X (some g0)
  bx : Blk X g0 33 #[ov]
structure IW (w0 : World) (g0 : Nat) (ov : Value) (r : List Int) (X : World) : Prop where
  e : IE w0 g0 ov X
  own : X.ownsRow w0.heap.size 3 1 ov r.length (intCells r)
def IdsInv (w0 : World) (g0 : Nat) (r : List Int) (X : World) : Prop := ∃ ov, IW w0 g0 ov r X
section
variable {w0 X X' : World} {g0 : Nat} {ov : Value} {r : List Int}
theorem own_base {w : World} {B size n : Nat} {e : TypeId} {v : Value} {xs : List Value} (h : w.ownsRow B e size v n xs) {g : Nat} (hg : v.ownBlock = some g) : B ≤ g := by
  rcases h.2 with ⟨rfl, _⟩ | ⟨g', cap, cur, rfl, hb, _⟩
  · simp [Value.ownBlock] at hg
  · have : g' = g := by simpa [Value.ownBlock] using hg
    omega
theorem IE.after (h : IE w0 g0 ov X) (hb : Below X.heap.size X X') : IE w0 g0 ov X' :=
  ⟨⟨hb.os.trans h.gr.os, hb.tape.trans h.gr.tape, hb.output.trans h.gr.output, Nat.le_trans h.gr.size hb.size, fun k hk hne => (hb.block k (Nat.lt_of_lt_of_le hk h.gr.size)).trans (h.gr.block k hk hne)⟩, h.bx.after hb⟩
theorem IW.after (h : IW w0 g0 ov r X) (hb : Below X.heap.size X X') : IW w0 g0 ov r X' := ⟨h.e.after hb, own_after h.own hb⟩
theorem IdsInv.after (h : IdsInv w0 g0 r X) (hb : Below X.heap.size X X') : IdsInv w0 g0 r X' := by
  obtain ⟨ov, h⟩ := h
  exact ⟨ov, h.after hb⟩
theorem IE.kept (h : IE w0 g0 ov X) (hown : X.ownsRow w0.heap.size 3 1 ov r.length (intCells r)) (hg : X.grownBy X' ov.ownBlock) : IE w0 g0 ov X' :=
  ⟨⟨hg.os.trans h.gr.os, hg.tape.trans h.gr.tape, hg.output.trans h.gr.output, Nat.le_trans h.gr.size hg.size, fun k hk hne =>
    (hg.block k (Nat.lt_of_lt_of_le hk h.gr.size) (fun e => by have := own_base hown e.symm; omega)).trans (h.gr.block k hk hne)⟩, h.bx.grown hg (Ne.symm (own_blk_ne hown h.bx (by decide)))⟩
theorem IW.push {x : Int} {v' : Value} (h : IW w0 g0 ov r X) (hg : X.grownBy X' ov.ownBlock) (hown : X'.ownsRow w0.heap.size 3 1 v' (r.length + 1) (intCells r ++ [.int .i64 x])) : IW w0 g0 v' (r ++ [x]) (X'.setCell ⟨g0, 0, none⟩ v') := by
  have h1 := h.e.kept h.own hg
  refine ⟨⟨only_set h1.gr 0 v', h1.bx.set_ 0 v'⟩, ?_⟩
  rw [List.length_append, List.length_singleton, show intCells (r ++ [x]) = intCells r ++ [.int .i64 x] from by simp [intCells]]
  exact own_other hown h1.bx (by decide) 0 v'
theorem IW.keeps {v' : Value} (h : IW w0 g0 ov r X) (hg : X.grownBy X' ov.ownBlock) : Keeps X (X'.setCell ⟨g0, 0, none⟩ v') := by
  have h1 := h.e.kept h.own hg
  refine ⟨by simpa [World.setCell] using hg.size, fun g t cs ht1 ht2 hb => ?_⟩
  have h2 := hb.grown hg (Ne.symm (own_blk_ne h.own hb (Ne.symm ht1)))
  exact h2.far (p := ⟨g0, 0, none⟩) (h2.ne_ h1.bx ht2) _
theorem IW.start {w : World} (hg : w.heap.size = g0) : IdsInv (w.alloc (.cells #[.slice none 0 0] 33)) g0 [] (w.alloc (.cells #[.slice none 0 0] 33)) :=
  ⟨.slice none 0 0, ⟨⟨World.grownBy.refl _ _, Blk.new' hg.symm⟩, ⟨rfl, .inl ⟨rfl, rfl⟩⟩⟩⟩
end
set_option maxRecDepth 100000 in
set_option maxHeartbeats 3200000 in
theorem visitOrder_any (w0 X : World) (g0 b oi d : Nat) (id : Int) (r : List Int) (h : IdsInv w0 g0 r X) (hl : r.length < 4096) (hb : b < w0.heap.size) (hne : b ≠ g0) (hc : w0.cell? ⟨b, oi, none⟩ = some (.int .i64 id)) :
    Calls Tryz.prog 33 #[.pointer (some ⟨b, oi, none⟩), .int .i64 d, .pointer (some ⟨g0, 0, none⟩)] X fun e X' => e = .returned (.tuple #[]) ∧ IdsInv w0 g0 (r ++ [id]) X' ∧ Keeps X X' := by
  obtain ⟨ov, h⟩ := h
  have HX := Lib.hid (h.after (below_drew1 X))
  have HSof : Hid (∀ Y, IE w0 g0 ov Y → Y.cell? ⟨g0, 0, none⟩ = some ov ∧ Y.cell? ⟨b, oi, none⟩ = some (.int .i64 id)) := Lib.hid fun Y hY => ⟨(hY.bx.cell 0).trans rfl, (grown_cell hY.gr hb hne).trans hc⟩
  obtain ⟨i0, hi0, hz0, hz1, hz2⟩ := info_parts intInfo
  clear h hc
  go_enter Tryz.func33, Tryz.ntmps33
  go_upto_region 0 with (fail)
  refine wp_region_held_tail 7 (fun w' => w'.cell? ⟨g0, 0, none⟩ = some ov ∧ w'.cell? ⟨b, oi, none⟩ = some (.int .i64 id)) (by kernel_rfl) (by kernel_rfl) ?hSt (fun hHeld => ?qt0)
  case hSt => exact HSof.out _ HX.out.e
  case qt0 =>
    simp only [List.take_succ_cons, List.take_zero, List.drop_succ_cons, List.drop_zero]
    refine wpAnyH_take (i := 0) (v := ov) rfl (by kernel_rfl) (by kernel_rfl) (by kernel_rfl) (fun _ _ _ h => h) (Or.inl ⟨by rfl, ?yt_1⟩) (by assumption) ?qt_1
    case yt_1 => (intro w hSw; (try dsimp only at hSw); go_simp)
    case qt_1 =>
      (try simp only [Act.put]); (try simp only [List.setIfInBounds_toArray])
      refine wpAnyH_take (i := 1) (v := (.pointer (some ⟨b, oi, none⟩))) rfl (by kernel_rfl) (by kernel_rfl) (by kernel_rfl) (fun _ _ _ h => h) (Or.inl ⟨by rfl, ?yt_2⟩) (by assumption) ?qt_2
      case yt_2 => (intro w hSw; (try dsimp only at hSw); go_simp)
      case qt_2 =>
        (try simp only [Act.put]); (try simp only [List.setIfInBounds_toArray])
        refine wpAnyH_take (i := 2) (v := (.pointer (some ⟨b, oi, none⟩))) rfl (by kernel_rfl) (by kernel_rfl) (by kernel_rfl) (fun _ _ _ h => h) (Or.inl ⟨by rfl, ?yt_3⟩) (by assumption) ?qt_3
        case yt_3 => (intro w hSw; (try dsimp only at hSw); go_simp)
        case qt_3 =>
          (try simp only [Act.put]); (try simp only [List.setIfInBounds_toArray])
          refine wpAnyH_take (i := 3) (v := (.pointer (some ⟨b, oi, none⟩))) rfl (by kernel_rfl) (by kernel_rfl) (by kernel_rfl) (fun _ _ _ h => h) (Or.inl ⟨by rfl, ?yt_4⟩) (by assumption) ?qt_4
          case yt_4 => (intro w hSw; (try dsimp only at hSw); go_simp)
          case qt_4 =>
            (try simp only [Act.put]); (try simp only [List.setIfInBounds_toArray])
            refine wpAnyH_take (i := 4) (v := (.int .i64 id)) rfl (by kernel_rfl) (by kernel_rfl) (by kernel_rfl) (fun _ _ _ h => h) (Or.inl ⟨by rfl, ?yt_5⟩) (by assumption) ?qt_5
            case yt_5 => (intro w hSw; (try dsimp only at hSw); go_simp)
            case qt_5 =>
              (try simp only [Act.put]); (try simp only [List.setIfInBounds_toArray])
              refine wpAnyH_ready (rs := [5]) (by kernel_rfl) (by simp) ?_
              refine AllReadyH.cons rfl (fun K hK => ?st_6) ?mt_6
              case st_6 =>
                (go_simp; have HXa := Lib.hid (HX.out.after (below_more (Below.refl _ _) (.cells #[.int .i64 id] 3))); have HNb := Lib.hid (Blk.new X.drew 3 #[.int .i64 id]); have hgm : X.drew.heap.size < (X.drew.alloc (.cells #[.int .i64 id] 3)).heap.size := HNb.out.lt)
                refine hK.out _ _ ?kt_6 (fun hHeld => ?qt_6)
                case kt_6 => ((try dsimp only); first | exact HSof.out _ HX2.out | exact HSof.out _ HXa.out.e | exact HSof.out _ HX.out.e)
                case qt_6 =>
                  clear hK K
                  (try simp only [Act.put]); (try simp only [List.setIfInBounds_toArray])
                  refine wpAnyH_ready (rs := [6]) (by kernel_rfl) (by simp) ?_
                  refine AllReadyH.cons rfl (fun K hK => ?st_7) ?mt_7
                  case st_7 =>
                    (refine step_app_mark _ (by rfl) (.tmp 5) (.tmp 10) _ (by rfl) w0.heap.size 3 i0 _ 1 8 Tryz.underlying33 hi0 hz0 hz1 hz2 rfl (by omega) ov r.length (intCells r) (by rfl) HXa.out.own _ [.int .i64 id] (by rfl) HNb.out rfl (by simp [Value.oneCell']) (by unfold maxLen; omega) (by omega) HXa.out.e.gr.size ?_; intro G1 cap1 w2 hown2 _ hca1 hca2 hgr2; have HX2 := Lib.hid (HXa.out.e.kept HXa.out.own hgr2))
                    refine hK.out _ _ ?kt_7 (fun hHeld => ?qt_7)
                    case kt_7 => ((try dsimp only); first | exact HSof.out _ HX2.out | exact HSof.out _ HXa.out.e | exact HSof.out _ HX.out.e)
                    case qt_7 =>
                      clear hK K
                      (try simp only [Act.put]); (try simp only [List.setIfInBounds_toArray])
                      refine wpAnyH_done (by kernel_rfl) ?_ _
                      have k0 := (HX2.out.bx.cell 0).trans (show _ = some ov from rfl)
                      have k1 := HX2.out.bx.frozen 0
                      have HO2 := Lib.hid hown2
                      have HG2 := Lib.hid hgr2
                      clear hown2 hgr2 hHeld
                      show wpList _ _ _ _ _ _
                      go_wp2_with fail
                      (try simp only [Exit.inBlock, Exit.then])
                      first | refine bodyPost_ret (results_none (by kernel_rfl) _ _ _) rfl ?_ | refine bodyPost_end (results_none (by kernel_rfl) _ _ _) rfl ?_
                      exact ⟨rfl, ⟨_, HXa.out.push HG2.out HO2.out⟩, (Keeps.of (below_more (below_drew1 _) _)).trans (HXa.out.keeps HG2.out)⟩
                  case mt_7 =>
                    exact AllReadyH.nil
              case mt_6 =>
                exact AllReadyH.nil
set_option maxRecDepth 100000 in
set_option maxHeartbeats 3200000 in
theorem visitBelow_any (w0 X : World) (g0 b oi d : Nat) (id : Int) (r : List Int) (h : IdsInv w0 g0 r X) (hl : r.length < 4096) (hb : b < w0.heap.size) (hne : b ≠ g0) (hc : w0.cell? ⟨b, oi, none⟩ = some (.int .i64 id)) :
    Calls Tryz.prog 58 #[.pointer (some ⟨b, oi, none⟩), .int .i64 d, .pointer (some ⟨g0, 0, none⟩)] X fun e X' => e = .returned (.tuple #[]) ∧ IdsInv w0 g0 (r ++ [id]) X' ∧ Keeps X X' := by
  obtain ⟨ov, h⟩ := h
  have HX := Lib.hid (h.after (below_drew1 X))
  have HSof : Hid (∀ Y, IE w0 g0 ov Y → Y.cell? ⟨g0, 0, none⟩ = some ov ∧ Y.cell? ⟨b, oi, none⟩ = some (.int .i64 id)) := Lib.hid fun Y hY => ⟨(hY.bx.cell 0).trans rfl, (grown_cell hY.gr hb hne).trans hc⟩
  obtain ⟨i0, hi0, hz0, hz1, hz2⟩ := info_parts intInfo
  clear h hc
  go_enter Tryz.func58, Tryz.ntmps58
  go_upto_region 0 with (fail)
  refine wp_region_held_tail 7 (fun w' => w'.cell? ⟨g0, 0, none⟩ = some ov ∧ w'.cell? ⟨b, oi, none⟩ = some (.int .i64 id)) (by kernel_rfl) (by kernel_rfl) ?hSt (fun hHeld => ?qt0)
  case hSt => exact HSof.out _ HX.out.e
  case qt0 =>
    simp only [List.take_succ_cons, List.take_zero, List.drop_succ_cons, List.drop_zero]
    refine wpAnyH_take (i := 0) (v := ov) rfl (by kernel_rfl) (by kernel_rfl) (by kernel_rfl) (fun _ _ _ h => h) (Or.inl ⟨by rfl, ?yt_1⟩) (by assumption) ?qt_1
    case yt_1 => (intro w hSw; (try dsimp only at hSw); go_simp)
    case qt_1 =>
      (try simp only [Act.put]); (try simp only [List.setIfInBounds_toArray])
      refine wpAnyH_take (i := 1) (v := (.pointer (some ⟨b, oi, none⟩))) rfl (by kernel_rfl) (by kernel_rfl) (by kernel_rfl) (fun _ _ _ h => h) (Or.inl ⟨by rfl, ?yt_2⟩) (by assumption) ?qt_2
      case yt_2 => (intro w hSw; (try dsimp only at hSw); go_simp)
      case qt_2 =>
        (try simp only [Act.put]); (try simp only [List.setIfInBounds_toArray])
        refine wpAnyH_take (i := 2) (v := (.pointer (some ⟨b, oi, none⟩))) rfl (by kernel_rfl) (by kernel_rfl) (by kernel_rfl) (fun _ _ _ h => h) (Or.inl ⟨by rfl, ?yt_3⟩) (by assumption) ?qt_3
        case yt_3 => (intro w hSw; (try dsimp only at hSw); go_simp)
        case qt_3 =>
          (try simp only [Act.put]); (try simp only [List.setIfInBounds_toArray])
          refine wpAnyH_take (i := 3) (v := (.pointer (some ⟨b, oi, none⟩))) rfl (by kernel_rfl) (by kernel_rfl) (by kernel_rfl) (fun _ _ _ h => h) (Or.inl ⟨by rfl, ?yt_4⟩) (by assumption) ?qt_4
          case yt_4 => (intro w hSw; (try dsimp only at hSw); go_simp)
          case qt_4 =>
            (try simp only [Act.put]); (try simp only [List.setIfInBounds_toArray])
            refine wpAnyH_take (i := 4) (v := (.int .i64 id)) rfl (by kernel_rfl) (by kernel_rfl) (by kernel_rfl) (fun _ _ _ h => h) (Or.inl ⟨by rfl, ?yt_5⟩) (by assumption) ?qt_5
            case yt_5 => (intro w hSw; (try dsimp only at hSw); go_simp)
            case qt_5 =>
              (try simp only [Act.put]); (try simp only [List.setIfInBounds_toArray])
              refine wpAnyH_ready (rs := [5]) (by kernel_rfl) (by simp) ?_
              refine AllReadyH.cons rfl (fun K hK => ?st_6) ?mt_6
              case st_6 =>
                (go_simp; have HXa := Lib.hid (HX.out.after (below_more (Below.refl _ _) (.cells #[.int .i64 id] 3))); have HNb := Lib.hid (Blk.new X.drew 3 #[.int .i64 id]); have hgm : X.drew.heap.size < (X.drew.alloc (.cells #[.int .i64 id] 3)).heap.size := HNb.out.lt)
                refine hK.out _ _ ?kt_6 (fun hHeld => ?qt_6)
                case kt_6 => ((try dsimp only); first | exact HSof.out _ HX2.out | exact HSof.out _ HXa.out.e | exact HSof.out _ HX.out.e)
                case qt_6 =>
                  clear hK K
                  (try simp only [Act.put]); (try simp only [List.setIfInBounds_toArray])
                  refine wpAnyH_ready (rs := [6]) (by kernel_rfl) (by simp) ?_
                  refine AllReadyH.cons rfl (fun K hK => ?st_7) ?mt_7
                  case st_7 =>
                    (refine step_app_mark _ (by rfl) (.tmp 5) (.tmp 10) _ (by rfl) w0.heap.size 3 i0 _ 1 8 Tryz.underlying33 hi0 hz0 hz1 hz2 rfl (by omega) ov r.length (intCells r) (by rfl) HXa.out.own _ [.int .i64 id] (by rfl) HNb.out rfl (by simp [Value.oneCell']) (by unfold maxLen; omega) (by omega) HXa.out.e.gr.size ?_; intro G1 cap1 w2 hown2 _ hca1 hca2 hgr2; have HX2 := Lib.hid (HXa.out.e.kept HXa.out.own hgr2))
                    refine hK.out _ _ ?kt_7 (fun hHeld => ?qt_7)
                    case kt_7 => ((try dsimp only); first | exact HSof.out _ HX2.out | exact HSof.out _ HXa.out.e | exact HSof.out _ HX.out.e)
                    case qt_7 =>
                      clear hK K
                      (try simp only [Act.put]); (try simp only [List.setIfInBounds_toArray])
                      refine wpAnyH_done (by kernel_rfl) ?_ _
                      have k0 := (HX2.out.bx.cell 0).trans (show _ = some ov from rfl)
                      have k1 := HX2.out.bx.frozen 0
                      have HO2 := Lib.hid hown2
                      have HG2 := Lib.hid hgr2
                      clear hown2 hgr2 hHeld
                      show wpList _ _ _ _ _ _
                      go_wp2_with fail
                      (try simp only [Exit.inBlock, Exit.then])
                      first | refine bodyPost_ret (results_none (by kernel_rfl) _ _ _) rfl ?_ | refine bodyPost_end (results_none (by kernel_rfl) _ _ _) rfl ?_
                      exact ⟨rfl, ⟨_, HXa.out.push HG2.out HO2.out⟩, (Keeps.of (below_more (below_drew1 _) _)).trans (HXa.out.keeps HG2.out)⟩
                  case mt_7 =>
                    exact AllReadyH.nil
              case mt_6 =>
                exact AllReadyH.nil
end Go.Proofs.YtbkmdlfenbfdlaaGreat
namespace Go.Proofs.YtbkmdlfenbfdlaaGreat
open Go Go.RowKit Go.Sort
set_option linter.unusedVariables false
theorem PW.far {w wr : World} {next : Int} {A : Option Addr} {n c : Nat} {nd : Nd} {L : Leaf} (h : PW w next A n c nd L wr) {g : Nat} (hg : w.heap.size + 1 < g) (i : Nat) (u : Value) : PW w next A n c nd L (wr.setCell ⟨g, i, none⟩ u) :=
  ⟨h.md.far (p := ⟨g, i, none⟩) (by show _ ≠ g; omega) u, h.nb.far (p := ⟨g, i, none⟩) (by show _ ≠ g; omega) u, Below.setCell' h.bel (by omega) u⟩
end Go.Proofs.YtbkmdlfenbfdlaaGreat
namespace Go.Proofs.YtbkmdlfenbfdlaaGreat
open Go Go.RowKit Go.Sort
set_option linter.unusedVariables false
theorem PW.store {w wr : World} {next : Int} {A : Option Addr} {n c : Nat} {nd : Nd} {L : Leaf} (h : PW w next A n c nd L wr) (kd : Nd) (M : Leaf) (nq : Nat) :
    PW w next A n c kd M ((((((((wr.drewN nq).setCell ⟨w.heap.size + 1, 0, none⟩ (.int .i64 kd.id)).setCell ⟨w.heap.size + 1, 1, none⟩ (.string kd.con)).setCell ⟨w.heap.size + 1, 2, none⟩ (.int .i64 kd.par)).setCell ⟨w.heap.size + 1, 3, none⟩ (.string kd.role)).setCell ⟨w.heap.size + 1, 4, none⟩ (.slice M.p.A M.p.n M.p.c)).setCell ⟨w.heap.size + 1, 5, none⟩ (.slice M.k.A M.k.n M.k.c)).setCell ⟨w.heap.size + 1, 6, none⟩ (.slice M.r.A M.r.n M.r.c)) := by
  have hne : w.heap.size ≠ w.heap.size + 1 := by omega
  have h0 := h.drewN nq
  refine ⟨((((((h0.md.far (p := ⟨_, _, none⟩) hne _).far (p := ⟨_, _, none⟩) hne _).far (p := ⟨_, _, none⟩) hne _).far (p := ⟨_, _, none⟩) hne _).far (p := ⟨_, _, none⟩) hne _).far (p := ⟨_, _, none⟩) hne _).far (p := ⟨_, _, none⟩) hne _, ?_, ?_⟩
  · have := ((((((h0.nb.set_ 0 (.int .i64 kd.id)).set_ 1 (.string kd.con)).set_ 2 (.int .i64 kd.par)).set_ 3 (.string kd.role)).set_ 4 (.slice M.p.A M.p.n M.p.c)).set_ 5 (.slice M.k.A M.k.n M.k.c)).set_ 6 (.slice M.r.A M.r.n M.r.c)
    simpa using this
  · have hb := h0.bel
    exact Below.setCell' (Below.setCell' (Below.setCell' (Below.setCell' (Below.setCell' (Below.setCell' (Below.setCell' hb (by omega) _) (by omega) _) (by omega) _) (by omega) _) (by omega) _) (by omega) _) (by omega) _
end Go.Proofs.YtbkmdlfenbfdlaaGreat
namespace Go.Proofs.YtbkmdlfenbfdlaaGreat
open Go Go.RowKit Go.Sort
set_option linter.unusedVariables false
/-- the box of a model, and nothing old has turned -/
structure MW (w : World) (next : Int) (A : Option Addr) (n c : Nat) (wr : World) : Prop where
  md : Blk wr w.heap.size 26 #[.int .i64 next, .slice A n c]
  bel : Below w.heap.size w wr
section
variable {w wr w' : World} {next : Int} {A : Option Addr} {n c : Nat}
theorem MW.start (w : World) (next : Int) (A : Option Addr) (n c : Nat) : MW w next A n c (w.alloc (.cells #[.int .i64 next, .slice A n c] 26)) := ⟨Blk.new _ _ _, below_box _ _⟩
theorem MW.after (h : MW w next A n c wr) (hb : Below wr.heap.size wr w') : MW w next A n c w' := ⟨h.md.after hb, h.bel.trans (hb.mono h.bel.size)⟩
theorem MW.drewN (h : MW w next A n c wr) (q : Nat) : MW w next A n c (wr.drewN q) := ⟨h.md, below_drewN h.bel q⟩
theorem MW.size (h : MW w next A n c wr) : w.heap.size < wr.heap.size := h.md.lt
theorem MW.c0 (h : MW w next A n c wr) : wr.cell? ⟨w.heap.size, 0, none⟩ = some (.int .i64 next) := h.md.cell 0
theorem MW.c1 (h : MW w next A n c wr) : wr.cell? ⟨w.heap.size, 1, none⟩ = some (.slice A n c) := h.md.cell 1
end
end Go.Proofs.YtbkmdlfenbfdlaaGreat
namespace Go.Proofs.YtbkmdlfenbfdlaaGreat
open Go Go.RowKit Go.Sort
set_option linter.unusedVariables false
/-- two lists, place by place -/
def eqL {α : Type} (e : α → α → Bool) : List α → List α → Bool
  | [], [] => true
  | x :: l, y :: m => e x y && eqL e l m
  | _, _ => false
theorem eqL_len {α : Type} (e : α → α → Bool) : ∀ {l m : List α}, l.length ≠ m.length → eqL e l m = false
  | [], [], h => absurd rfl h
  | [], _ :: _, _ => rfl
  | _ :: _, [], _ => rfl
  | x :: l, y :: m, h => by
    rw [eqL, eqL_len e (l := l) (m := m) (by simpa using h), Bool.and_false]
theorem eqL_refl {α : Type} {e : α → α → Bool} (h : ∀ x, e x x = true) : ∀ l : List α, eqL e l l = true
  | [] => rfl
  | x :: l => by rw [eqL, h, eqL_refl h l]; rfl
def intE (x y : Int) : Bool := x == y
def propE (x y : ByteArray × ByteArray) : Bool := (x.1.toList == y.1.toList) && (x.2.toList == y.2.toList)
def refE (x y : ByteArray × Int) : Bool := (x.1.toList == y.1.toList) && (x.2 == y.2)
theorem drew_below {B : Nat} {w wr : World} (h : ∃ q, wr = w.drewN q) : Below B w wr := by
  obtain ⟨q, rfl⟩ := h; exact below_drewN (Below.refl _ _) q
theorem drew_more {w wr : World} (h : ∃ q, wr = w.drewN q) (n : Nat) : ∃ q, wr.drewN n = w.drewN q := by
  obtain ⟨q, rfl⟩ := h; exact ⟨q + n, World.drewN_drewN _ _ _⟩
theorem intE_refl (x : Int) : intE x x = true := by simp [intE]
theorem propE_refl (x : ByteArray × ByteArray) : propE x x = true := by simp [propE]
theorem refE_refl (x : ByteArray × Int) : refE x x = true := by simp [refE]
set_option maxHeartbeats 1600000 in
theorem refInts_any (w : World) (lo hi lo' hi' : Nat) (A A' : Option Addr) (n c n' c' : Nat) (l m : List Int) (h1 : Row w lo hi 1 A n c (intCells l)) (h2 : Row w lo' hi' 1 A' n' c' (intCells m)) :
    Calls Tryz.prog 22 #[.slice A n c, .slice A' n' c'] w (DrewV w (.bool (eqL intE l m))) := by
  have hl1 : l.length = n := by have := h1.1; rw [intCells_length] at this; omega
  have hl2 : m.length = n' := by have := h2.1; rw [intCells_length] at this; omega
  have HL1 := Lib.hid hl1
  have HL2 := Lib.hid hl2
  have hc := h1.2.2.1
  have hnc := h1.2.1
  have hc' := h2.2.2.1
  have hnc' := h2.2.1
  unfold maxLen at hc hc'
  clear hl1 hl2
  by_cases hne : n = n'
  · have d0 : ((n : Int) != (n' : Int)) = false := by rw [bne_eq_false_iff_eq]; omega
    subst hne
    go_enter Tryz.func22, Tryz.ntmps22
    go_wp2_with fail
    go_loopw [5] (fun i wr => ∃ k : Nat, k ≤ n ∧ i = .int .i64 k ∧ Hid (∃ q, wr = w.drewN q) ∧ Hid (eqL intE l m = eqL intE (l.drop k) (m.drop k))) (fun i _ => n - (intOf i).toNat)
    case atStart => exact ⟨0, by omega, rfl, Lib.hid ⟨0, rfl⟩, Lib.hid rfl⟩
    case round =>
      obtain ⟨k, hk, rfl, HQ, HK⟩ := hrel
      by_cases hlt : k < n
      · obtain ⟨b1, o1, rfl, _, _, hcells1⟩ := (h1.below (drew_below HQ.out)).at_ (by omega)
        obtain ⟨b2, o2, rfl, _, _, hcells2⟩ := (h2.below (drew_below HQ.out)).at_ (by omega)
        obtain ⟨x, hx⟩ : ∃ x, l[k]? = some x := ⟨l[k]'(by have := HL1.out; omega), List.getElem?_eq_getElem _⟩
        obtain ⟨y, hy⟩ : ∃ y, m[k]? = some y := ⟨m[k]'(by have := HL2.out; omega), List.getElem?_eq_getElem _⟩
        have q1 := hcells1 k _ (intCells_get hx)
        have q2 := hcells2 k _ (intCells_get hy)
        have HD : Hid (eqL intE l m = (intE x y && eqL intE (l.drop (k + 1)) (m.drop (k + 1)))) := Lib.hid (by
          obtain ⟨hl1, e1⟩ := List.getElem?_eq_some_iff.1 hx
          obtain ⟨hl2, e2⟩ := List.getElem?_eq_some_iff.1 hy
          rw [HK.out, List.drop_eq_getElem_cons hl1, List.drop_eq_getElem_cons hl2, e1, e2]; rfl)
        clear HK hx hy hcells1 hcells2
        by_cases e1 : x = y
        · have d1 : (x != y) = false := by rw [bne_eq_false_iff_eq]; exact e1
          have HZ : Hid (eqL intE l m = eqL intE (l.drop (k + 1)) (m.drop (k + 1))) := Lib.hid (by rw [HD.out]; simp [intE, e1])
          clear HD e1
          go_wp2_with fail
          go_quiet (fail)
          go_wp2_with fail
          go_roundw
          case rel => exact ⟨k + 1, by omega, by go_num, Lib.hid (drew_more HQ.out nq), HZ⟩
          case measure => simp [intOf]; omega
        · have d1 : (x != y) = true := by rw [bne_iff_ne]; exact e1
          have HZ : Hid (eqL intE l m = false) := Lib.hid (by rw [HD.out]; simp [intE, e1])
          clear HD e1
          go_wp2_with fail
          go_quiet (fail)
          go_wp2_with fail
          go_ret
          exact ⟨ret_bool HZ.out.symm, drew_more HQ.out nq⟩
      · have HZ : Hid (eqL intE l m = true) := Lib.hid (by rw [HK.out, List.drop_eq_nil_of_le (by have := HL1.out; omega), List.drop_eq_nil_of_le (by have := HL2.out; omega)]; rfl)
        clear HK
        go_wp2_with fail
        go_ret
        exact ⟨ret_bool HZ.out.symm, HQ.out⟩
  · have d0 : ((n : Int) != (n' : Int)) = true := by rw [bne_iff_ne]; omega
    have HZ : Hid (eqL intE l m = false) := Lib.hid (eqL_len _ (by have := HL1.out; have := HL2.out; omega))
    clear hne
    go_enter Tryz.func22, Tryz.ntmps22
    go_wp2_with fail
    go_ret
    exact ⟨ret_bool HZ.out.symm, 0, rfl⟩
end Go.Proofs.YtbkmdlfenbfdlaaGreat

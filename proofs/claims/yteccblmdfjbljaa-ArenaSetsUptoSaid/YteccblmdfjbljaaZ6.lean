/-
  MEMORY OF THE CALL's OWN: slices that were built, their cells, what they read as; lists that were lent, with a mark behind.
  A REGION THAT DRAWS ITS ORDER, AND ENDS IN OPERATIONS WHOSE ORDER IS FORCED: what comes ahead of them is walked under a condition on the world, what they do is walked behind it. No program stands in it.
-/
import Derived.Test.YteccblmdfjbljaaZ5
import Derived.Deep.AppendLies
import Derived.Deep.RegionHeld3
import Derived.Maps.AppendAt
import Derived.WalkKit
import Derived.StillTail
namespace Go.Proofs.Yteccblmdfjbljaa
open Go Go.RowKit Go.Sort
set_option linter.unusedVariables false
theorem flatN_get {α : Type} {f : α → List Value} {s : Nat} (hs : ∀ a, (f a).length = s) (l : List α) : ∀ (i : Nat) (p : α), l[i]? = some p → ∀ j, j < s → (l.flatMap f)[i * s + j]? = (f p)[j]? := by
  induction l with
  | nil => intro i p h; simp at h
  | cons q l ih =>
    intro i p h j hj
    have hq := hs q
    rw [List.flatMap_cons]
    match i, h with
    | 0, h =>
      obtain rfl : q = p := by simpa using h
      rw [Nat.zero_mul, Nat.zero_add, List.getElem?_append_left (by omega)]
    | i + 1, h =>
      have := ih i p (by simpa using h) j hj
      rw [Nat.succ_mul, List.getElem?_append_right (by omega), hq]
      rw [show i * s + s + j - s = i * s + j from by omega]
      exact this
theorem flatN_len {α : Type} {f : α → List Value} {s : Nat} (hs : ∀ a, (f a).length = s) (l : List α) : (l.flatMap f).length = l.length * s := by
  induction l with
  | nil => simp
  | cons q l ih => rw [List.flatMap_cons, List.length_append, ih, hs, List.length_cons, Nat.succ_mul]; omega
/-- a node's seven cells -/
def ndCells (p : Nd × Leaf) : List Value := [.int .i64 p.1.id, .string p.1.con, .int .i64 p.1.par, .string p.1.role, .slice p.2.p.A p.2.p.n p.2.p.c, .slice p.2.k.A p.2.k.n p.2.k.c, .slice p.2.r.A p.2.r.n p.2.r.c]
theorem ndCells_len (p : Nd × Leaf) : (ndCells p).length = 7 := rfl
def allCells (l : List (Nd × Leaf)) : List Value := l.flatMap ndCells
theorem allCells_len (l : List (Nd × Leaf)) : (allCells l).length = l.length * 7 := flatN_len ndCells_len l
theorem propCells_one (l : List (ByteArray × ByteArray)) : ∀ u ∈ propCells l, u.oneCell' = true := by
  intro u hu
  obtain ⟨p, _, hp⟩ := List.mem_flatMap.1 hu
  simp only [List.mem_cons, List.not_mem_nil, or_false] at hp
  rcases hp with rfl | rfl <;> rfl
theorem refCells_one (l : List (ByteArray × Int)) : ∀ u ∈ refCells l, u.oneCell' = true := by
  intro u hu
  obtain ⟨p, _, hp⟩ := List.mem_flatMap.1 hu
  simp only [List.mem_cons, List.not_mem_nil, or_false] at hp
  rcases hp with rfl | rfl <;> rfl
theorem intCells_one (l : List Int) : ∀ u ∈ intCells l, u.oneCell' = true := by
  intro u hu
  obtain ⟨p, _, rfl⟩ := List.mem_map.1 hu
  rfl
section
variable {w w' : World} {B : Nat} {e : TypeId} {size n : Nat} {v : Value} {xs : List Value}
/-- an own row reads as a row -/
theorem own_row {A : Option Addr} {c : Nat} (h : w.ownsRow B e size (.slice A n c) n xs) : Row w B w.heap.size size A n c xs := by
  refine ⟨h.1, ?_⟩
  rcases h.2 with ⟨hv, hn⟩ | ⟨g, cap, cur, hv, hb, hg, hn, hm, _, _⟩
  · injection hv with h1 h2 h3
    subst hn
    exact ⟨by omega, by unfold maxLen; omega, fun h => absurd h (by omega)⟩
  · injection hv with h1 h2 h3
    subst h3
    refine ⟨hn, hm, fun h0 => ⟨g, 0, h1, hb, (Array.getElem?_eq_some_iff.1 hg).1, fun j u hu => ?_⟩⟩
    subst h1
    have := World.ownsRow.cells h (g := g) rfl j u hu
    simpa [Addr.add_lit] using this
theorem own_after (h : w.ownsRow B e size v n xs) (hb : Below w.heap.size w w') : w'.ownsRow B e size v n xs := by
  refine ⟨h.1, ?_⟩
  rcases h.2 with hn | ⟨g, cap, cur, rfl, hbg, hgg, rest⟩
  · exact .inl hn
  · refine .inr ⟨g, cap, cur, rfl, hbg, ?_, rest⟩
    rw [hb.block g (Array.getElem?_eq_some_iff.1 hgg).1]
    exact hgg
/-- .. while a block of another type is written -/
theorem own_other {g : Nat} {t : TypeId} {cs : Array Value} (h : w.ownsRow B e size v n xs) (hg : Blk w g t cs) (hne : e ≠ t) (i : Nat) (u : Value) : (w.setCell ⟨g, i, none⟩ u).ownsRow B e size v n xs := by
  refine ⟨h.1, ?_⟩
  rcases h.2 with hn | ⟨g', cap, cur, rfl, hbg, hgg, rest⟩
  · exact .inl hn
  · refine .inr ⟨g', cap, cur, rfl, hbg, ?_, rest⟩
    have hne' : g' ≠ g := Blk.ne_ (t := e) hgg hg hne
    rw [Below.heap_setCell _ ⟨g, i, none⟩ _ _ hne']
    exact hgg
theorem own_blk_ne {g : Nat} {t : TypeId} {cs : Array Value} (h : w.ownsRow B e size v n xs) (hg : Blk w g t cs) (hne : e ≠ t) : v.ownBlock ≠ some g := by
  rcases h.2 with ⟨rfl, _⟩ | ⟨g', cap, cur, rfl, _, hh, _⟩
  · simp [Value.ownBlock]
  · intro he
    have : g' = g := by simpa [Value.ownBlock] using he
    subst this
    exact Blk.ne_ (t := e) hh hg hne rfl
theorem own_own_ne {B' : Nat} {e' : TypeId} {size' n' : Nat} {v' : Value} {xs' : List Value} (h : w.ownsRow B e size v n xs) (h' : w.ownsRow B' e' size' v' n' xs') (hne : e ≠ e') : v.ownBlock = none ∨ v.ownBlock ≠ v'.ownBlock := by
  rcases h.2 with ⟨rfl, _⟩ | ⟨g, cap, cur, rfl, _, hh, _⟩
  · exact .inl rfl
  · right
    rcases h'.2 with ⟨rfl, _⟩ | ⟨g', cap', cur', rfl, _, hh', _⟩
    · simp [Value.ownBlock]
    · intro he
      have : g = g' := by simpa [Value.ownBlock] using he
      subst this
      exact Blk.ne_ (t := e) hh hh' hne rfl
theorem own_mono {B' : Nat} (h : w.ownsRow B e size v n xs) (hB : B' ≤ B) : w.ownsRow B' e size v n xs := by
  refine ⟨h.1, ?_⟩
  rcases h.2 with hn | ⟨g, cap, cur, hv, hb, rest⟩
  · exact .inl hn
  · exact .inr ⟨g, cap, cur, hv, by omega, rest⟩
/-- the first ones of an own row -/
theorem own_take {A : Option Addr} {c : Nat} {k : Nat} (h : w.ownsRow B e size (.slice A n c) n xs) (hk : k ≤ n) (hA : A ≠ none) : w.ownsRow B e size (.slice A k c) k (xs.take (k * size)) := by
  have hle : k * size ≤ n * size := Nat.mul_le_mul_right _ hk
  refine ⟨by rw [List.length_take, h.1]; omega, ?_⟩
  rcases h.2 with ⟨hv, hn⟩ | ⟨g, cap, cur, hv, hb, hg, hn, hm, hs, ht⟩
  · injection hv with h1; exact absurd h1 hA
  · injection hv with h1 h2 h3
    subst h1 h3
    refine .inr ⟨g, c, cur, rfl, hb, hg, by omega, hm, hs, ?_⟩
    rw [← ht, List.take_take, Nat.min_eq_left hle]
/-- a new, empty one, with whatever room -/
theorem own_empty {g : Nat} (hg : w.heap[g]? = some (.cells #[] e (0, 0))) (hB : B ≤ g) : w.ownsRow B e size (.slice (some ⟨g, 0, none⟩) 0 0) 0 [] :=
  ⟨by simp, .inr ⟨g, 0, #[], rfl, hB, hg, Nat.le_refl _, by unfold maxLen; omega, by simp, by simp⟩⟩
end
/-- a block that is known whole, as a row -/
theorem row_blk {w : World} {g n c size : Nat} {e : TypeId} {fr : Nat × Nat} {cs : Array Value} (hg : w.heap[g]? = some (.cells cs e fr)) (hs : cs.size = n * size) (hn : n ≤ c) (hc : c ≤ maxLen) : Row w g (g + 1) size (some ⟨g, 0, none⟩) n c cs.toList :=
  ⟨by simpa using hs, hn, hc, fun _ => ⟨g, 0, rfl, Nat.le_refl _, Nat.lt_succ_self _, fun j u hu => by
    rw [cell_of_row w g (0 + j) cs e fr hg, Nat.zero_add]; simpa using hu⟩⟩
section
variable {P : Program} (w : World)
theorem run_app_nil (base : Nat) (t ty e : TypeId) (i : TypeInfo) (size : Nat) (ht : P.underlying t = some (.slice e)) (hi : P.info? e = some i)
    (v : Value) (n : Nat) (xs : List Value) (hown : w.ownsRow base e size v n xs) (c : Nat) : (Builtin.append_ #[t, t] ty #[v, .slice none 0 c]).run P w = .ok v w := by
  rcases hown.2 with ⟨rfl, rfl⟩ | ⟨g, cap, cur, rfl, _, _, hnc, _⟩
  · simp [Builtin.append_, run_underlying ht, sizeOf, typeInfo, hi, Builtin.lenOf, Builtin.firstCells]
  · simp [Builtin.append_, run_underlying ht, sizeOf, typeInfo, hi, Builtin.lenOf, Builtin.firstCells, hnc, storeCells]
theorem run_app (base : Nat) (t ty e : TypeId) (i : TypeInfo) (z : Value) (size bytes : Nat) (ht : P.underlying t = some (.slice e)) (hi : P.info? e = some i) (hz : i.zero = some z)
    (hsize : i.size = size) (hby : i.bytes = bytes) (hzs : z.cells.size = size) (hsz : 0 < size)
    (v : Value) (n : Nat) (xs : List Value) (hown : w.ownsRow base e size v n xs)
    (lo hi' : Nat) (A : Option Addr) (m c : Nat) (news : List Value) (hr : Row w lo hi' size A m c news) (h1 : ∀ u ∈ news, u.oneCell' = true)
    (h63 : n + m ≤ maxLen) (hbytes : (n + m) * bytes ≤ 140737488355328) (hbase : base ≤ w.heap.size) :
    ∃ v' w', (Builtin.append_ #[t, t] ty #[v, .slice A m c]).run P w = .ok v' w' ∧ w'.ownsRow base e size v' (n + m) (xs ++ news) ∧ w.grownBy w' v.ownBlock ∧
      (v'.ownBlock = v.ownBlock ∨ v'.ownBlock = some w.heap.size) := by
  rcases A with _ | ad
  · have hm : m = 0 := by
      rcases Nat.eq_zero_or_pos m with h0 | h0
      · exact h0
      · obtain ⟨b, o, h, _⟩ := hr.2.2.2 h0
        cases h
    subst hm
    have hn : news = [] := List.eq_nil_of_length_eq_zero (by simpa using hr.1)
    subst hn
    exact ⟨v, w, run_app_nil w base t ty e i size ht hi v n xs hown c, by simpa using hown, World.grownBy.refl w _, .inl rfl⟩
  · have hcells : ∀ j u, news[j]? = some u → w.cell? (ad.add j) = some u := by
      intro j u hu
      rcases Nat.eq_zero_or_pos m with h0 | h0
      · subst h0
        have hn : news = [] := List.eq_nil_of_length_eq_zero (by simpa using hr.1)
        subst hn
        simp at hu
      · obtain ⟨b, o, h, _, _, hc⟩ := hr.2.2.2 h0
        injection h with h
        subst h
        rw [Addr.add_lit]
        exact hc j u hu
    obtain ⟨v', w', hrun, h2, h3, _, h5⟩ := run_append_own_at (P := P) w base t ty e i z size bytes ht hi hz hsize hby hzs hsz v n xs hown ad m c news hr.1 hcells h1 h63 hbytes hbase
    exact ⟨v', w', hrun, h2, h3, h5⟩
theorem wp_app {o : Oper} {a : Act} {K : Act → World → Prop} {Q : Exit → Act → World → Prop} (s x : Operand) (t : TypeId)
    (ho : o.op = .call { callee := .builtin .append, args := #[s, x], argTypes := #[t, t] })
    (base : Nat) (e : TypeId) (i : TypeInfo) (z : Value) (size bytes : Nat) (ht : P.underlying t = some (.slice e)) (hi : P.info? e = some i) (hz : i.zero = some z)
    (hsize : i.size = size) (hby : i.bytes = bytes) (hzs : z.cells.size = size) (hsz : 0 < size)
    (v : Value) (n : Nat) (xs : List Value) (hs : a.eval s = v) (hown : w.ownsRow base e size v n xs)
    (lo hi' : Nat) (A : Option Addr) (m c : Nat) (news : List Value) (hx : a.eval x = .slice A m c) (hr : Row w lo hi' size A m c news) (h1 : ∀ u ∈ news, u.oneCell' = true)
    (h63 : n + m ≤ maxLen) (hbytes : (n + m) * bytes ≤ 140737488355328) (hbase : base ≤ w.heap.size)
    (h : ∀ v' w', w'.ownsRow base e size v' (n + m) (xs ++ news) → w.grownBy w' v.ownBlock → (v'.ownBlock = v.ownBlock ∨ v'.ownBlock = some w.heap.size) → K (a.put o.dst v') w') : o.wp P a w K Q := by
  obtain ⟨v', w', hrun, h2, h3, h4⟩ := run_app (P := P) w base t o.type e i z size bytes ht hi hz hsize hby hzs hsz v n xs hown lo hi' A m c news hr h1 h63 hbytes hbase
  unfold Oper.wp execOp
  simp only [ho, resolve, invoke, builtin, Sem.run_bind, Sem.run_pure, Result.andThen_ok, List.map_toArray, List.map_cons, List.map_nil, hs, hx, hrun]
  exact h v' w' h2 h3 h4
/-- append as the walk takes it, in a plain region -/
theorem wpList_app {ops : Array Oper} {rest : List Oper} {o : Oper} {a : Act} {Q : Exit → Act → World → Prop} (hgd : o.guard = none) (s x : Operand) (t : TypeId)
    (ho : o.op = .call { callee := .builtin .append, args := #[s, x], argTypes := #[t, t] })
    (base : Nat) (e : TypeId) (i : TypeInfo) (z : Value) (size bytes : Nat) (ht : P.underlying t = some (.slice e)) (hi : P.info? e = some i) (hz : i.zero = some z)
    (hsize : i.size = size) (hby : i.bytes = bytes) (hzs : z.cells.size = size) (hsz : 0 < size)
    (v : Value) (n : Nat) (xs : List Value) (hs : a.eval s = v) (hown : w.ownsRow base e size v n xs)
    (lo hi' : Nat) (A : Option Addr) (m c : Nat) (news : List Value) (hx : a.eval x = .slice A m c) (hr : Row w lo hi' size A m c news) (h1 : ∀ u ∈ news, u.oneCell' = true)
    (h63 : n + m ≤ maxLen) (hbytes : (n + m) * bytes ≤ 140737488355328) (hbase : base ≤ w.heap.size)
    (h : ∀ v' w', w'.ownsRow base e size v' (n + m) (xs ++ news) → w.grownBy w' v.ownBlock → (v'.ownBlock = v.ownBlock ∨ v'.ownBlock = some w.heap.size) → wpList P ops Q rest (a.put o.dst v') w') : wpList P ops Q (o :: rest) a w :=
  wpList_plain hgd fun _ hK => wp_app w s x t ho base e i z size bytes ht hi hz hsize hby hzs hsz v n xs hs hown lo hi' A m c news hx hr h1 h63 hbytes hbase fun v' w' h2 h3 h4 => hK _ _ (h v' w' h2 h3 h4)
/-- .. as a step of a region that draws its order -/
theorem step_app {ops : Array Oper} {o : Oper} {a : Act} {K : Act → World → Prop} {Q : Exit → Act → World → Prop} {E : Prop} (hgd : o.guard = none) (s x : Operand) (t : TypeId)
    (ho : o.op = .call { callee := .builtin .append, args := #[s, x], argTypes := #[t, t] })
    (base : Nat) (e : TypeId) (i : TypeInfo) (z : Value) (size bytes : Nat) (ht : P.underlying t = some (.slice e)) (hi : P.info? e = some i) (hz : i.zero = some z)
    (hsize : i.size = size) (hby : i.bytes = bytes) (hzs : z.cells.size = size) (hsz : 0 < size)
    (v : Value) (n : Nat) (xs : List Value) (hs : a.eval s = v) (hown : w.ownsRow base e size v n xs)
    (lo hi' : Nat) (A : Option Addr) (m c : Nat) (news : List Value) (hx : a.eval x = .slice A m c) (hr : Row w lo hi' size A m c news) (h1 : ∀ u ∈ news, u.oneCell' = true)
    (h63 : n + m ≤ maxLen) (hbytes : (n + m) * bytes ≤ 140737488355328) (hbase : base ≤ w.heap.size)
    (h : ∀ v' w', w'.ownsRow base e size v' (n + m) (xs ++ news) → w.grownBy w' v.ownBlock → (v'.ownBlock = v.ownBlock ∨ v'.ownBlock = some w.heap.size) → K (a.put o.dst v') w') :
    if Region.wanted o (yielded ops a.tmps) = true then Oper.wp P o a w K Q else E := by
  have hw : Region.wanted o (yielded ops a.tmps) = true := by simp [Region.wanted, hgd]
  rw [if_pos hw]
  exact wp_app w s x t ho base e i z size bytes ht hi hz hsize hby hzs hsz v n xs hs hown lo hi' A m c news hx hr h1 h63 hbytes hbase h
end
/-- the slice holds these nodes, in memory of the call's own -/
def OwnN (w : World) (B : Nat) (v : Value) (l : List (Nd × Leaf)) : Prop := w.ownsRow B 81 7 v l.length (allCells l)
theorem OwnN.nodesIn {w : World} {B n c : Nat} {A : Option Addr} {l : List (Nd × Leaf)} {lo hi : Nat} (h : OwnN w B (.slice A n c) l) (hn : l.length = n) (hl : ∀ p ∈ l, LeafIn w lo hi p.1 p.2) (hlo : lo ≤ B) (hhi : w.heap.size ≤ hi) : NodesIn w lo hi A n c (l.map (·.1)) := by
  subst hn
  have hr := own_row h
  refine ⟨by simp, hr.2.1, hr.2.2.1, fun h0 => ?_⟩
  obtain ⟨b, o, hA, h1, h2, hc⟩ := hr.2.2.2 h0
  refine ⟨b, o, hA, by omega, by omega, fun i => (l.getD i (l[0]'h0)).2, fun i nd hi' => ?_⟩
  rw [List.getElem?_map] at hi'
  obtain ⟨p, hp, rfl⟩ := Option.map_eq_some_iff.1 hi'
  have hg : l.getD i (l[0]'h0) = p := by rw [List.getD_eq_getElem?_getD, hp]; rfl
  simp only [hg]
  refine ⟨?_, hl p (List.mem_of_getElem? hp)⟩
  have key : ∀ j u, j < 7 → (ndCells p)[j]? = some u → w.cell? ⟨b, o + i * 7 + j, none⟩ = some u := by
    intro j u hj hu
    have := hc (i * 7 + j) u (by unfold allCells; rw [flatN_get ndCells_len l i p hp j hj]; exact hu)
    rwa [Nat.add_assoc]
  exact ⟨key 0 _ (by omega) rfl, key 1 _ (by omega) rfl, key 2 _ (by omega) rfl, key 3 _ (by omega) rfl, key 4 _ (by omega) rfl, key 5 _ (by omega) rfl, key 6 _ (by omega) rfl⟩
end Go.Proofs.Yteccblmdfjbljaa
namespace Go.Proofs.Yteccblmdfjbljaa
open Go Go.RowKit
set_option linter.unusedVariables false
/-- Q, but K where the region goes on -/
def tailQ (Q : Exit → Act → World → Prop) (K : Act → World → Prop) : Exit → Act → World → Prop
  | .normal, a, w => K a w
  | e, a, w => Q e a w
section
variable {P : Program} {Q : Exit → Act → World → Prop} {K : Act → World → Prop} {md : Region.Mode} {S : World → Prop}
theorem lets_tail (h : LetsOut (tailQ Q K)) : LetsOut Q := h
theorem oper_tail {o : Oper} {a : Act} {w : World} {next : Act → World → Prop} (h : Oper.wp P o a w next (tailQ Q K)) : Oper.wp P o a w next Q := by
  unfold Oper.wp at *
  generalize (execOp a.eval o).run P w = r at *
  cases r with
  | ok n w' =>
    cases n <;> simp only [Oper.upon] at h ⊢ <;>
      first
        | exact h
        | exact Calls.mono h (fun e w'' he => by cases e <;> exact he)
  | halt x w' => cases x <;> simp only [Oper.upon] at h ⊢ <;> exact h
/-- each operation ahead of number n is asked for whatever comes, and waits for earlier ones alone -/
def aheadB (md : Region.Mode) (ops : Array Oper) (n : Nat) : Bool :=
  (List.range n).all fun j => match ops[j]? with
    | some o => o.guard.isNone && o.after.all fun e => !Region.binds md e || decide (e.on < j)
    | none => false
theorem aheadB_spec {ops : Array Oper} {n : Nat} (h : aheadB md ops n = true) {j : Nat} (hj : j < n) : ∃ o, ops[j]? = some o ∧ o.guard = none ∧ ∀ e ∈ o.after, Region.binds md e = true → e.on < j := by
  have h1 := List.all_eq_true.1 h j (List.mem_range.2 hj)
  cases ho : ops[j]? with
  | none => simp [ho] at h1
  | some o =>
    rw [ho] at h1
    simp only [Bool.and_eq_true, Option.isNone_iff_eq_none] at h1
    refine ⟨o, rfl, h1.1, fun e he hb => ?_⟩
    have := Array.all_eq_true_iff_forall_mem.1 h1.2 e he
    rw [hb] at this
    simpa using this
theorem wpAny_more {ops : Array Oper} {listed : Array Bool} : ∀ (f : Nat) (listed : Array Bool) (a : Act) (w : World), wpAny P md ops Q f listed a w → wpAny P md ops Q (f + 1) listed a w
  | 0, _, _, _, h => ⟨fun _ => h.2, fun i hi => by rw [h.1] at hi; cases hi⟩
  | f + 1, _, _, _, h => ⟨h.1, fun i hi => wpOp_mono (fun a' w' h' => wpAny_more (listed := listed) f _ a' w' h') (h.2 i hi)⟩
theorem wpAny_more' {ops : Array Oper} {listed : Array Bool} {a : Act} {w : World} {g : Nat} (h : wpAny P md ops Q g listed a w) : ∀ f, wpAny P md ops Q (f + g) listed a w
  | 0 => by rw [Nat.zero_add]; exact h
  | f + 1 => by rw [show f + 1 + g = (f + g) + 1 from by omega]; exact wpAny_more (listed := listed) _ _ _ _ (wpAny_more' h f)
variable {hops : Array Oper} {ops : Array Oper} {n g : Nat}
theorem getD_app {L R : Array Bool} {j : Nat} {d : Bool} (hj : j < L.size) : (L ++ R).getD j d = L.getD j d := by
  simp [Array.getD_eq_getD_getElem?, Array.getElem?_append_left hj]
theorem ready_head (hs : hops.size = n) (hh : ∀ j, j < n → hops[j]? = ops[j]?) (hB : aheadB md ops n = true) {L R : Array Bool} (hL : L.size = n) {j : Nat} (hj : j < n) :
    j ∈ Region.ready md ops (L ++ R) ↔ j ∈ Region.ready md hops L := by
  rw [mem_ready, mem_ready, hh j hj, getD_app (by omega)]
  obtain ⟨o, ho, _, hd⟩ := aheadB_spec hB hj
  refine and_congr_right fun _ => ?_
  refine exists_congr fun o' => and_congr_right fun ho' => forall_congr' fun e => forall_congr' fun he => forall_congr' fun hb => ?_
  have : o' = o := Option.some.inj (ho'.symm.trans ho)
  subst this
  rw [getD_app (by have := hd e he hb; omega)]
theorem some_ready (hs : hops.size = n) (hh : ∀ j, j < n → hops[j]? = ops[j]?) (hB : aheadB md ops n = true) {L : Array Bool} (hL : L.size = n) : ∀ (j : Nat), j < n → L.getD j true = false → ∃ i, i < n ∧ i ∈ Region.ready md hops L := by
  intro j
  induction j using Nat.strongRecOn with
  | _ j ih =>
    intro hj hun
    obtain ⟨o, ho, _, hd⟩ := aheadB_spec hB hj
    by_cases h : ∃ e ∈ o.after, Region.binds md e = true ∧ L.getD e.on false = false
    · obtain ⟨e, he, hb, hl⟩ := h
      have hlt := hd e he hb
      exact ih e.on hlt (by omega) (getD_in (by omega) hl)
    · refine ⟨j, hj, mem_ready.2 ⟨hun, o, by rw [hh j hj]; exact ho, fun e he hb => ?_⟩⟩
      cases hl : L.getD e.on false with
      | true => rfl
      | false => exact absurd ⟨e, he, hb, hl⟩ h
theorem op_head (hh : ∀ j, j < n → hops[j]? = ops[j]?) (hB : aheadB md ops n = true) {i : Nat} (hi : i < n) {K1 K2 : Act → World → Prop} {a : Act} {w : World} (hK : ∀ a w, K1 a w → K2 a w)
    (h : wpOp P hops (tailQ Q K) i K1 a w) : wpOp P ops Q i K2 a w := by
  obtain ⟨o, ho, hg, _⟩ := aheadB_spec hB hi
  unfold wpOp at *
  rw [hh i hi] at h
  simp only [ho] at h ⊢
  have hw : ∀ y, Region.wanted o y = true := fun y => by simp [Region.wanted, hg]
  rw [hw, if_pos rfl] at h ⊢
  exact h.imp (fun h => oper_tail (Oper.wp_mono hK h)) (fun h => ⟨h.1, lets_tail h.2⟩)
theorem head_tail {l : List Oper} (hs : hops.size = n) (hh : ∀ j, j < n → hops[j]? = ops[j]?) (hB : aheadB md ops n = true) (hsk : Region.sinkB md ops n = true) (hch : Region.chainB md ops n = true) (hn : n < ops.size)
    (hl : ∀ j, l[j]? = ops[n + j]?) (hseq : Region.seqB md ops l.length n (Array.replicate n true ++ Array.replicate l.length false) = true) (hsize : ops.size = n + l.length) :
    ∀ (fuel : Nat) (L : Array Bool) (a : Act) (w : World), L.size = n → HeadInv md ops n (L ++ Array.replicate l.length false) →
      wpAnyH P md hops (tailQ Q (wpList P ops Q l)) S fuel L a w → wpAny P md ops Q (fuel + l.length) (L ++ Array.replicate l.length false) a w := by
  intro fuel
  induction fuel with
  | zero =>
    intro L a w hL inv h
    have hall : ∀ j, j < n → L.getD j true = true := fun j hj => by
      cases hx : L.getD j true with
      | true => rfl
      | false =>
        obtain ⟨i, _, hi⟩ := some_ready hs hh hB hL j hj hx
        rw [h.1] at hi; cases hi
    have hLe : L = Array.replicate n true := by
      refine Array.ext (by simp [hL]) fun j h1 h2 => ?_
      have := hall j (by omega)
      rw [Array.getElem_replicate]
      simpa [h1] using this
    rw [Nat.zero_add, hLe]
    exact wpAny_of_seq l n _ a w hl hseq h.2
  | succ fuel ih =>
    intro L a w hL inv h
    by_cases hun : ∃ j, j < n ∧ L.getD j true = false
    · obtain ⟨j, hj, hx⟩ := hun
      obtain ⟨i, hin, hi⟩ := some_ready hs hh hB hL j hj hx
      have hif := (ready_head (R := Array.replicate l.length false) hs hh hB hL hin).2 hi
      rw [show fuel + 1 + l.length = (fuel + l.length) + 1 from by omega]
      refine ⟨fun h0 => (by rw [h0] at hif; cases hif), fun k hk => ?_⟩
      have hkn : k < n := by
        rcases Nat.lt_or_ge k n with h | h
        · exact h
        · exact absurd hk (tail_waits hsk hch hn inv _ j rfl hj (by rw [getD_app (by omega)]; exact hx) k h)
      have hkh := (ready_head hs hh hB hL hkn).1 hk
      refine op_head hh hB hkn (fun a' w' h' => ?_) (h.2 k hkh)
      have e : (L ++ Array.replicate l.length false).setIfInBounds k true = L.setIfInBounds k true ++ Array.replicate l.length false := by
        rw [Array.setIfInBounds_append_left (by omega)]
      rw [e]
      exact ih _ a' w' (by simpa using hL) (by rw [← e]; exact inv.set hk hkn) h'.2
    · have hall : ∀ j, j < n → L.getD j true = true := fun j hj => by
        cases hx : L.getD j true with
        | true => rfl
        | false => exact absurd ⟨j, hj, hx⟩ hun
      have hLe : L = Array.replicate n true := by
        refine Array.ext (by simp [hL]) fun j h1 h2 => ?_
        have := hall j (by omega)
        rw [Array.getElem_replicate]
        simpa [h1] using this
      have hr0 : Region.ready md hops L = [] := by
        rcases hx : Region.ready md hops L with _ | ⟨i, rs⟩
        · rfl
        · have hi : i ∈ Region.ready md hops L := by rw [hx]; exact List.mem_cons_self
          obtain ⟨h1, o, ho, _⟩ := mem_ready.1 hi
          have hin : i < n := by rw [← hs]; exact (Array.getElem?_eq_some_iff.1 ho).1
          rw [hall i hin] at h1; cases h1
      refine wpAny_more' ?_ (fuel + 1)
      rw [hLe]
      exact wpAny_of_seq l n _ a w hl hseq (h.1 hr0)
/-- what the kernel looks at -/
def tailB (ops : Array Oper) (n : Nat) : Bool :=
  aheadB .any ops n && Region.sinkB .any ops n && Region.chainB .any ops n && decide (n < ops.size) && Region.seqB .any ops (ops.size - n) n (Array.replicate n true ++ Array.replicate (ops.size - n) false)
/-- **the beginning**: n operations in whatever order, under S; then the others as they stand -/
theorem wp_region_held_tail {id : Nat} {a : Act} {w : World} {l : List Oper} (n : Nat) (S : World → Prop) (hm : P.follows .mixedOrders = true) (hB : tailB l.toArray n = true) (hS : S w.drew)
    (h : S w.drew → wpAnyH P .any (l.take n).toArray (tailQ Q (wpList P l.toArray Q (l.drop n))) S n (Array.replicate n false) a w.drew) : (Code.region id l.toArray true).wp P Q a w := by
  simp only [tailB, Bool.and_eq_true, decide_eq_true_eq] at hB
  obtain ⟨⟨⟨⟨h1, h2⟩, h3⟩, h4⟩, h5⟩ := hB
  have hn : n < l.length := by simpa using h4
  have hdl : l.toArray.size - n = (l.drop n).length := by simp
  have hsz : l.toArray.size = n + (l.drop n).length := by simp; omega
  refine wp_region_any hm ?_
  have := head_tail (P := P) (Q := Q) (S := S) (hops := (l.take n).toArray) (ops := l.toArray) (n := n) (md := .any) (l := l.drop n) (by simp; omega) (fun j hj => by simp [hj]) h1 h2 h3 h4 (fun j => by simp [List.getElem?_drop]) (by rw [← hdl]; exact h5) hsz
    n (Array.replicate n false) a w.drew (by simp) ?_ (h hS)
  · rw [← hsz] at this
    have e : Array.replicate n false ++ Array.replicate (l.drop n).length false = Array.replicate l.toArray.size false := by
      rw [Array.replicate_append_replicate, ← hsz]
    rw [e] at this
    exact this
  · refine ⟨by simp; omega, fun j oj _ hl => ?_, fun t ht ht' => ?_⟩
    · rw [Array.replicate_append_replicate, getD_replicate_false] at hl; cases hl
    · rw [Array.replicate_append_replicate]
      exact getD_in (by rw [← hsz]; simpa using ht') (getD_replicate_false _ _)
end
end Go.Proofs.Yteccblmdfjbljaa

/-
  WALKS over package kinds: several, first, kindOf.
  KINDS IN PLAIN MATHEMATICS: the way from a node up to the whole; what is bound on it.
  WALKS over the document's answers for layer 9: up, Bound.
  WALKS over the document's answers for layer 9: Kind.
  WALKS over the document's answers for layer 9: Kind of every node; wrong.
-/
import Derived.Test.YtjlpoigcalfdlaaDoorZB13
import Derived.Test.YtjlpoigcalfdlaaDoorShelf
namespace Go.Proofs.YtjlpoigcalfdlaaDoor
open Go Go.RowKit Go.Sort
set_option linter.unusedVariables false
def SaysS (w : World) (b : Bool) (e : Ending) (w' : World) : Prop := e = .returned (.bool b) ∧ w' = w
theorem binds_any (k : Int) (w : World) : Calls Tryd.prog 41 #[.int .i64 k] w (SaysS w (bindsB k)) := by
  by_cases h1 : k = 31
  · subst h1
    go_enter Tryd.func41, Tryd.ntmps41
    go_wp2_with fail
    go_ret
    exact ⟨rfl, rfl⟩
  have b1 : (k == 31) = false := by rw [beq_eq_false_iff_ne]; exact h1
  by_cases h2 : k = 32
  · subst h2
    go_enter Tryd.func41, Tryd.ntmps41
    go_wp2_with fail
    go_ret
    exact ⟨rfl, rfl⟩
  have b2 : (k == 32) = false := by rw [beq_eq_false_iff_ne]; exact h2
  by_cases h3 : k = 33
  · subst h3
    go_enter Tryd.func41, Tryd.ntmps41
    go_wp2_with fail
    go_ret
    exact ⟨rfl, rfl⟩
  have b3 : (k == 33) = false := by rw [beq_eq_false_iff_ne]; exact h3
  by_cases h4 : k = 34
  · subst h4
    go_enter Tryd.func41, Tryd.ntmps41
    go_wp2_with fail
    go_ret
    exact ⟨rfl, rfl⟩
  have b4 : (k == 34) = false := by rw [beq_eq_false_iff_ne]; exact h4
  have HB : Hid (bindsB k = false) := Lib.hid (by
    unfold bindsB
    cases hd : (decide (31 ≤ k) && decide (k ≤ 34)) with
    | false => rfl
    | true => simp only [Bool.and_eq_true, decide_eq_true_eq] at hd; omega)
  clear h1 h2 h3 h4
  go_enter Tryd.func41, Tryd.ntmps41
  go_wp2_with fail
  go_ret
  exact ⟨by rw [HB.out]; rfl, rfl⟩
def setC (r : List Nat) : List Value := r.map fun (m : Nat) => Value.int .u8 m
def rowsV : Array Value := (rowsL.flatMap setC).toArray
/-- what package kinds' variable holds -/
structure KindEnv (w : World) : Prop where
  rows : ∃ t fr, w.heap[0]? = some (.cells rowsV t fr)
theorem KindEnv.below {w w' : World} (h : KindEnv w) (hb : Below w.heap.size w w') : KindEnv w' := by
  obtain ⟨t, fr, h2⟩ := h
  exact ⟨t, fr, (hb.block _ (heap_lt h2)).trans h2⟩
end Go.Proofs.YtjlpoigcalfdlaaDoor
namespace Go.Proofs.YtjlpoigcalfdlaaDoor
open Go
set_option linter.unusedVariables false
/-- the way from a node up to the whole, with what is bound at the node -/
inductive EnvAt (l : List EN) : Nat → Bnd → Prop where
  | root : EnvAt l 0 []
  | kid {i q k : Nat} {n : EN} {e : Bnd} : EnvAt l i e → l[i]? = some n → n.kids[k]? = some (q : Int) → i < q → EnvAt l q (inner n.kind n.text e k)
def KidIn (l : List EN) (lo hi : Nat) (q : Int) (i k : Nat) : Prop := lo ≤ i ∧ i < hi ∧ ∃ n, l[i]? = some n ∧ n.kids[k]? = some q
theorem offs_in : ∀ (f : Fo) (p : Nat), ∀ q ∈ f.offs p, (p : Int) ≤ q ∧ q < p + f.size
  | .nil, p, q, h => by simp [Fo.offs] at h
  | .cons k s i a r, p, q, h => by
    simp only [Fo.offs, List.mem_cons] at h
    simp only [Fo.size]
    rcases h with rfl | h
    · omega
    · have := offs_in r _ q h; omega
theorem offs_inj : ∀ (f : Fo) (p k k' : Nat) (q : Int), (f.offs p)[k]? = some q → (f.offs p)[k']? = some q → k = k'
  | .nil, p, k, k', q, h, _ => by simp [Fo.offs] at h
  | .cons kd s i a r, p, 0, 0, q, h, h' => rfl
  | .cons kd s i a r, p, 0, k' + 1, q, h, h' => by
    simp only [Fo.offs, List.getElem?_cons_zero, Option.some.injEq, List.getElem?_cons_succ] at h h'
    have := offs_in r _ q (List.mem_of_getElem? h'); omega
  | .cons kd s i a r, p, k + 1, 0, q, h, h' => by
    simp only [Fo.offs, List.getElem?_cons_zero, Option.some.injEq, List.getElem?_cons_succ] at h h'
    have := offs_in r _ q (List.mem_of_getElem? h); omega
  | .cons kd s i a r, p, k + 1, k' + 1, q, h, h' => by
    simp only [Fo.offs, List.getElem?_cons_succ] at h h'
    rw [offs_inj r _ k k' q h h']
theorem kid_in (l : List EN) : ∀ (f : Fo) (p : Nat), At l p f → ∀ q i k, KidIn l p (p + f.size) q i k → (i : Int) < q ∧ q < p + f.size ∧ q ∉ f.offs p
  | .nil, p, _, q, i, k, ⟨h1, h2, _⟩ => by simp only [Fo.size] at h2; omega
  | .cons kd s nn a r, p, ⟨t1, t2, t3⟩, q, i, k, ⟨h1, h2, n, h3, h4⟩ => by
    simp only [Fo.size] at h2 ⊢
    simp only [Fo.offs, List.mem_cons, not_or]
    by_cases e1 : i = p
    · subst e1
      rw [t1] at h3
      obtain rfl := Option.some.inj h3
      have := offs_in a _ q (List.mem_of_getElem? h4)
      exact ⟨by omega, by omega, by omega, fun hq => by have := offs_in r _ q hq; omega⟩
    · by_cases e2 : i < p + 1 + a.size
      · have := kid_in l a (p + 1) t2 q i k ⟨by omega, e2, n, h3, h4⟩
        exact ⟨this.1, by omega, by omega, fun hq => by have := offs_in r _ q hq; omega⟩
      · have := kid_in l r (p + 1 + a.size) t3 q i k ⟨by omega, by omega, n, h3, h4⟩
        exact ⟨this.1, by omega, by omega, this.2.2⟩
theorem kid_one (l : List EN) : ∀ (f : Fo) (p : Nat), At l p f → ∀ q i k i' k', KidIn l p (p + f.size) q i k → KidIn l p (p + f.size) q i' k' → i = i' ∧ k = k'
  | .nil, p, _, q, i, k, i', k', ⟨h1, h2, _⟩, _ => by simp only [Fo.size] at h2; omega
  | .cons kd s nn a r, p, ⟨t1, t2, t3⟩, q, i, k, i', k', ⟨h1, h2, n, h3, h4⟩, ⟨g1, g2, n', g3, g4⟩ => by
    simp only [Fo.size] at h2 g2
    have K : ∀ (i k : Nat) (n : EN), p ≤ i → i < p + (1 + a.size + r.size) → l[i]? = some n → n.kids[k]? = some q →
        (i = p ∧ (a.offs (p + 1))[k]? = some q ∧ (q < p + 1 + a.size) ∧ q ∈ a.offs (p + 1)) ∨ (p + 1 ≤ i ∧ i < p + 1 + a.size ∧ q < p + 1 + a.size ∧ q ∉ a.offs (p + 1)) ∨ (p + 1 + a.size ≤ i ∧ (i : Int) < q) := by
      intro i k n h1 h2 h3 h4
      by_cases e1 : i = p
      · subst e1
        rw [t1] at h3
        obtain rfl := Option.some.inj h3
        have := offs_in a _ q (List.mem_of_getElem? h4)
        exact .inl ⟨rfl, h4, by omega, List.mem_of_getElem? h4⟩
      · by_cases e2 : i < p + 1 + a.size
        · have := kid_in l a (p + 1) t2 q i k ⟨by omega, e2, n, h3, h4⟩
          exact .inr (.inl ⟨by omega, e2, by omega, this.2.2⟩)
        · have := kid_in l r (p + 1 + a.size) t3 q i k ⟨by omega, by omega, n, h3, h4⟩
          exact .inr (.inr ⟨by omega, this.1⟩)
    rcases K i k n h1 h2 h3 h4 with ⟨a1, a2, a3, a4⟩ | ⟨a1, a2, a3, a4⟩ | ⟨a1, a2⟩ <;> rcases K i' k' n' g1 g2 g3 g4 with ⟨b1, b2, b3, b4⟩ | ⟨b1, b2, b3, b4⟩ | ⟨b1, b2⟩
    · exact ⟨by omega, offs_inj a _ k k' q a2 b2⟩
    · exact absurd a4 b4
    · omega
    · exact absurd b4 a4
    · exact kid_one l a (p + 1) t2 q i k i' k' ⟨a1, a2, n, h3, h4⟩ ⟨b1, b2, n', g3, g4⟩
    · omega
    · omega
    · omega
    · exact kid_one l r (p + 1 + a.size) t3 q i k i' k' ⟨a1, by omega, n, h3, h4⟩ ⟨b1, by omega, n', g3, g4⟩
/-- each node but the whole is the kid of just one -/
structure OneUp (l : List EN) : Prop where
  one : ∀ {i k i' k' : Nat} {n n' : EN} {q : Int}, l[i]? = some n → n.kids[k]? = some q → l[i']? = some n' → n'.kids[k']? = some q → i = i' ∧ k = k'
  pos : ∀ {i k : Nat} {n : EN} {q : Int}, l[i]? = some n → n.kids[k]? = some q → (i : Int) < q ∧ q < l.length
theorem Tree.oneUp {l : List EN} {f : Fo} (h : Tree l f) : OneUp l := by
  have hs := h.size
  refine ⟨fun {i k i' k' n n' q} h1 h2 h3 h4 => ?_, fun {i k n q} h1 h2 => ?_⟩
  · have e1 := (List.getElem?_eq_some_iff.1 h1).1
    have e2 := (List.getElem?_eq_some_iff.1 h3).1
    exact kid_one l f 0 h.at_ q i k i' k' ⟨by omega, by omega, n, h1, h2⟩ ⟨by omega, by omega, n', h3, h4⟩
  · have e1 := (List.getElem?_eq_some_iff.1 h1).1
    have := kid_in l f 0 h.at_ q i k ⟨by omega, by omega, n, h1, h2⟩
    exact ⟨this.1, by omega⟩
/-- .. of the trees of a row -/
def EnvF (l : List EN) : Nat → Fo → (Nat → Bnd) → Prop
  | _, .nil, _ => True
  | p, .cons k s i a r, e => EnvAt l p (e 0) ∧ EnvF l (p + 1) a (inner k s (e 0)) ∧ EnvF l (p + 1 + a.size) r (fun j => e (j + 1))
theorem envF_of (l : List EN) : ∀ (f : Fo) (p : Nat) (e : Nat → Bnd), At l p f → (∀ j (q : Nat), (f.offs p)[j]? = some (q : Int) → EnvAt l q (e j)) → EnvF l p f e
  | .nil, _, _, _, _ => trivial
  | .cons k s i a r, p, e, ⟨h1, h2, h3⟩, h => by
    have h0 : EnvAt l p (e 0) := h 0 p rfl
    refine ⟨h0, envF_of l a (p + 1) _ h2 fun j q hq => ?_, envF_of l r _ _ h3 fun j q hq => h (j + 1) q hq⟩
    have := offs_in a _ _ (List.mem_of_getElem? hq)
    exact EnvAt.kid h0 h1 hq (by omega)
theorem Tree.envF {l : List EN} {f : Fo} (h : Tree l f) : EnvF l 0 f (fun _ => []) :=
  envF_of l f 0 _ h.at_ fun j q hq => by
    rw [h.one] at hq
    cases j with
    | zero =>
      simp at hq
      obtain rfl : q = 0 := by omega
      exact .root
    | succ j => simp at hq
/-- whose kid a node is, and which one -/
def UpIs (l : List EN) (q : Int) (i k : Int) : Prop := (i = -1 ∧ ∀ n ∈ l, q ∉ n.kids) ∨ ∃ (i' k' : Nat) (n : EN), i = i' ∧ k = k' ∧ l[i']? = some n ∧ n.kids[k']? = some q
theorem EnvAt.up {l : List EN} (ho : OneUp l) {q : Nat} {e : Bnd} (h : EnvAt l q e) {i k : Int} (hu : UpIs l q i k) : (i = -1 ∧ q = 0 ∧ e = []) ∨ ∃ (i' k' : Nat) (n : EN) (e' : Bnd), i = i' ∧ k = k' ∧ i' < q ∧ l[i']? = some n ∧ EnvAt l i' e' ∧ e = inner n.kind n.text e' k' := by
  rcases hu with ⟨h1, h2⟩ | ⟨i', k', n, h1, h2, h3, h4⟩
  · cases h with
    | root => exact .inl ⟨h1, rfl, rfl⟩
    | kid a b c d => exact absurd (List.mem_of_getElem? c) (h2 _ (List.mem_of_getElem? b))
  · cases h with
    | root => have := (ho.pos h3 h4).1; omega
    | kid a b c d =>
      obtain ⟨rfl, rfl⟩ := ho.one b c h3 h4
      rw [b] at h3
      obtain rfl := Option.some.inj h3
      exact .inr ⟨_, _, _, _, h1, h2, d, b, a, rfl⟩
theorem inner_yes {kd : Int} {s t : ByteArray} {e : Bnd} {k : Nat} (h1 : k = 1) (h2 : 31 ≤ kd) (h3 : kd ≤ 34) (h4 : s = t) : (inner kd s e k).contains t.data.toList = true := by
  subst h4
  unfold inner bindsB
  rw [if_pos ⟨h1, by simp; omega⟩]
  simp
theorem inner_no {kd : Int} {s t : ByteArray} {e : Bnd} {k : Nat} (h : ¬ (k = 1 ∧ 31 ≤ kd ∧ kd ≤ 34 ∧ s = t)) : (inner kd s e k).contains t.data.toList = e.contains t.data.toList := by
  unfold inner bindsB
  by_cases c : k = 1 ∧ (decide (31 ≤ kd) && decide (kd ≤ 34)) = true
  · rw [if_pos c]
    simp only [Bool.and_eq_true, decide_eq_true_eq] at c
    have hst : ¬ s = t := fun hst => h ⟨c.1, c.2.1, c.2.2, hst⟩
    have hb : (t.data.toList == s.data.toList) = false := by
      rw [beq_eq_false_iff_ne]
      intro he
      apply hst
      cases s; cases t
      simp at he
      rw [he]
    rw [List.contains_cons, hb, Bool.false_or]
  · rw [if_neg c]
end Go.Proofs.YtjlpoigcalfdlaaDoor
namespace Go.Proofs.YtjlpoigcalfdlaaDoor
open Go Go.RowKit Go.Sort
set_option linter.unusedVariables false
/-- whose kid a node is is told -/
def UpSays (w : World) (l : List EN) (q : Int) (e : Ending) (w' : World) : Prop := ∃ i k : Int, e = .returned (.tuple #[.int .i64 i, .int .i64 k]) ∧ UpIs l q i k ∧ Below w.heap.size w w'
theorem upSays_none {w w' : World} {l : List EN} {q : Int} (h : ∀ n ∈ l, q ∉ n.kids) (hb : Below w.heap.size w w') : UpSays w l q (.returned (.tuple #[.int .i64 (-1), .int .i64 0])) w' := ⟨-1, 0, rfl, .inl ⟨rfl, h⟩, hb⟩
theorem upSays_some {w w' : World} {l : List EN} {q : Int} {i k : Nat} {n : EN} (h1 : l[i]? = some n) (h2 : n.kids[k]? = some q) (hb : Below w.heap.size w w') : UpSays w l q (.returned (.tuple #[.int .i64 i, .int .i64 k])) w' := ⟨i, k, rfl, .inr ⟨i, k, n, rfl, rfl, h1, h2⟩, hb⟩
theorem not_in_step {l : List EN} {i : Nat} {q : Int} {n : EN} (h : ∀ j m, j < i → l[j]? = some m → q ∉ m.kids) (hn : l[i]? = some n) (hq : q ∉ n.kids) : ∀ j m, j < i + 1 → l[j]? = some m → q ∉ m.kids := by
  intro j m hj hm
  by_cases e : j = i
  · subst e; rw [hn] at hm; obtain rfl := Option.some.inj hm; exact hq
  · exact h j m (by omega) hm
theorem not_in_kids {ks : List Int} {q : Int} {n : Nat} (hn : n = ks.length) (h : ∀ j v, j < n → ks[j]? = some v → v ≠ q) : q ∉ ks := fun hq => by
  obtain ⟨j, hj⟩ := List.mem_iff_getElem?.1 hq
  exact h j q (by have := (List.getElem?_eq_some_iff.1 hj).1; omega) hj rfl
set_option maxRecDepth 20000 in
set_option maxHeartbeats 3200000 in
theorem up_any (w : World) (hi : Nat) (A : Option Addr) (n c : Nat) (l : List (EN × Sl)) (hl : ExIn w hi ⟨A, n, c⟩ l) (hh : hi ≤ w.heap.size) (q : Int) :
    Calls Tryd.prog 37 #[.agg #[.slice A n c], .int .i64 q] w (UpSays w (nodesOf l) q) := by
  have hm := hl.max
  unfold maxLen at hm
  have HL := Lib.hid hl
  have HN : Hid (n = l.length) := Lib.hid hl.g.n
  clear hl
  have HX0 : Hid (Blk (w.alloc (.cells #[.slice A n c] 24)) w.heap.size 24 #[.slice A n c]) := Lib.hid (Blk.new _ _ _)
  have HB0 : Hid (Below w.heap.size w (w.alloc (.cells #[.slice A n c] 24))) := Lib.hid (below_of_alloc _)
  go_enter Tryd.func37, Tryd.ntmps37
  go_upto_region 1 with (fail)
  generalize w.alloc (.cells #[.slice A n c] 24) = W0 at HX0 HB0 ⊢
  go_wp2_with fail
  go_loopw [6, 7] (fun i _ wr => ∃ (k : Nat), k ≤ n ∧ i = .int .i64 k ∧ Hid (Blk wr w.heap.size 24 #[.slice A n c]) ∧ Hid (Below w.heap.size w wr) ∧ Hid (∀ j m, j < k → (nodesOf l)[j]? = some m → q ∉ m.kids)) (fun i _ _ => n - (intOf i).toNat)
  case atStart => exact ⟨0, Nat.zero_le _, rfl, HX0, HB0, Lib.hid (fun j m hj => absurd hj (Nat.not_lt_zero _))⟩
  case round =>
    obtain ⟨k, hk, rfl, HX1, HB1, HQ⟩ := hrel
    have cx := (HX1.out.cell 0).trans (show _ = some (.slice A n c) from rfl)
    by_cases hlt : k < n
    · obtain ⟨b, o, x, hA, hb, hx, hc, hin, hok⟩ := HL.out.at_ hlt
      simp only at hA
      subst hA
      have HX := Lib.hid (nodesOf_at hx)
      have HIN := Lib.hid hin
      have hnk := hin.max
      unfold maxLen at hnk
      have HKN := Lib.hid hin.kn
      have HC := Lib.hid hc
      clear hc hok hx hin
      obtain ⟨⟨kd, T, nn, ks⟩, ⟨A', n', c'⟩⟩ := x
      simp only at hnk HIN HX HKN HC
      go_wp2_with fail
      clear cx
      go_loopw [7] (fun i wr => ∃ (j : Nat), j ≤ n' ∧ i = .int .i64 j ∧ Hid (Blk wr w.heap.size 24 #[.slice (some ⟨b, o, none⟩) n c]) ∧ Hid (Below w.heap.size w wr) ∧ Hid (∀ t v, t < j → ks[t]? = some v → v ≠ q)) (fun i _ => n' - (intOf i).toNat)
      case atStart => exact ⟨0, Nat.zero_le _, rfl, HX1, HB1, Lib.hid (fun j m hj => absurd hj (Nat.not_lt_zero _))⟩
      case round =>
        obtain ⟨j, hj, rfl, HX2, HB2, HV⟩ := hrel
        have cx := (HX2.out.cell 0).trans (show _ = some (.slice (some ⟨b, o, none⟩) n c) from rfl)
        have c3 := (HC.out.below HB2.out (show b < w.heap.size by omega)).c3
        simp only at c3
        by_cases hjt : j < n'
        · obtain ⟨bk, ok, y, hAk, hbk, hy, hcy⟩ := HIN.out.at_ hjt
          simp only at hAk hy
          subst hAk
          have qk := (HB2.out.cell (p := ⟨bk, ok + j, none⟩) (show bk < w.heap.size by omega)).trans hcy
          clear hcy
          by_cases h1 : y = q
          · have b1 : (y == q) = true := by rw [h1]; simp
            have HP := Lib.hid (upSays_some HX.out (show ({ kind := kd, text := T, int := nn, kids := ks } : EN).kids[j]? = some q from by rw [← h1]; exact hy) HB2.out)
            clear h1 hy
            go_wp2_with fail
            go_ret2
            exact HP.out
          · have b1 : (y == q) = false := by rw [beq_eq_false_iff_ne]; exact h1
            have HV2 : Hid (∀ t v, t < j + 1 → ks[t]? = some v → v ≠ q) := Lib.hid (by
              intro t v ht hv
              by_cases e : t = j
              · subst e; rw [hy] at hv; obtain rfl := Option.some.inj hv; exact h1
              · exact HV.out t v (by omega) hv)
            clear h1 hy
            go_wp2_with fail
            go_roundw
            case rel => exact ⟨j + 1, by omega, by go_num, HX2, HB2, HV2⟩
            case measure => simp [intOf]; omega
        · obtain rfl : j = n' := by omega
          have HQ2 := Lib.hid (not_in_step HQ.out HX.out (not_in_kids HKN.out HV.out))
          go_wp2_with fail
          go_roundw
          case rel => exact ⟨k + 1, by omega, by go_num, HX2, HB2, HQ2⟩
          case measure => simp [intOf]; omega
    · have HP := Lib.hid (upSays_none (w := w) (q := q) (fun m hm => by
        obtain ⟨j, hj⟩ := List.mem_iff_getElem?.1 hm
        exact HQ.out j m (by have := (List.getElem?_eq_some_iff.1 hj).1; rw [nodesOf_len] at this; have := HN.out; omega) hj) HB1.out)
      go_wp2_with fail
      go_ret2
      exact HP.out
/-- is a variable bound at a node? -/
def TellsB (w : World) (b : Bool) (e : Ending) (w' : World) : Prop := e = .returned (.bool b) ∧ Below w.heap.size w w'
theorem tellsB {w w' : World} {b b' : Bool} (h : b = b') (hb : Below w.heap.size w w') : TellsB w b' (.returned (.bool b)) w' := ⟨by rw [h], hb⟩
set_option maxRecDepth 20000 in
set_option maxHeartbeats 3200000 in
theorem bound_any (w : World) (hi : Nat) (A : Option Addr) (n c : Nat) (l : List (EN × Sl)) (hl : ExIn w hi ⟨A, n, c⟩ l) (hh : hi ≤ w.heap.size) (ho : OneUp (nodesOf l)) (q : Nat) (T : ByteArray) (e : Bnd) (he : EnvAt (nodesOf l) q e) (hq : q < n) (bd : Bool) (hbd : Hid (bd = e.contains T.data.toList)) :
    Calls Tryd.prog 24 #[.agg #[.slice A n c], .int .i64 q, .string T] w (TellsB w bd) := by
  have hm := hl.max
  unfold maxLen at hm
  have HL := Lib.hid hl
  have HN : Hid (n = l.length) := Lib.hid hl.g.n
  have HO := Lib.hid ho
  have HE := Lib.hid he
  clear hl ho he
  have HX0 : Hid (Blk (w.alloc (.cells #[.slice A n c] 24)) w.heap.size 24 #[.slice A n c]) := Lib.hid (Blk.new _ _ _)
  have HB0 : Hid (Below w.heap.size w (w.alloc (.cells #[.slice A n c] 24))) := Lib.hid (below_of_alloc _)
  go_enter Tryd.func24, Tryd.ntmps24
  go_upto_region 1 with (fail)
  generalize w.alloc (.cells #[.slice A n c] 24) = W0 at HX0 HB0 ⊢
  go_loopw [1, 7, 8] (fun i _ _ wr => ∃ (z : Int), i = .int .i64 z ∧ z < n ∧ Hid (Blk wr w.heap.size 24 #[.slice A n c]) ∧ Hid (Below w.heap.size w wr) ∧ Hid ((z = -1 ∧ bd = false) ∨ ∃ (p : Nat) (e' : Bnd), z = p ∧ EnvAt (nodesOf l) p e' ∧ bd = e'.contains T.data.toList)) (fun i _ _ _ => (intOf i + 1).toNat)
  case atStart => exact ⟨q, rfl, by omega, HX0, HB0, Lib.hid (.inr ⟨q, e, rfl, HE.out, hbd.out⟩)⟩
  case round =>
    rename World => wo
    obtain ⟨z, rfl, hz, HX1, HB1, HR⟩ := hrel
    have cx := (HX1.out.cell 0).trans (show _ = some (.slice A n c) from rfl)
    by_cases hz0 : z = -1
    · subst hz0
      have HP : Hid (bd = false) := Lib.hid (by
        rcases HR.out with ⟨_, h⟩ | ⟨p, _, h, _⟩
        · exact h
        · omega)
      go_wp2_with fail
      go_ret
      exact tellsB HP.out.symm HB1.out
    · have HR2 : Hid (∃ (p : Nat) (e' : Bnd), z = p ∧ EnvAt (nodesOf l) p e' ∧ bd = e'.contains T.data.toList) := Lib.hid (by
        rcases HR.out with ⟨h, _⟩ | h
        · exact absurd h hz0
        · exact h)
      obtain ⟨p, e', rfl, hE, hP⟩ := HR2.out
      have HE1 := Lib.hid hE
      have HP1 := Lib.hid hP
      have HU := Lib.hid (up_any wo hi A n c l (HL.out.below (HB1.out.mono hh)) (Nat.le_trans hh HB1.out.size) p)
      clear HR2 hE hP hz0
      go_upto_region 3 with (go_at_call 37; refine HU.out.mono ?_; rintro e2 w2 ⟨i, k, rfl, hu, hb2⟩; have HU2 := Lib.hid (HE1.out.up HO.out hu); have HB2 := Lib.hid (HB1.out.trans (hb2.mono HB1.out.size)); have HX2 := Lib.hid (HX1.out.after hb2); clear hb2 hu HU)
      by_cases hi0 : i = -1
      · subst hi0
        have HR3 : Hid (bd = false) := Lib.hid (by
          rcases HU2.out with ⟨_, _, h⟩ | ⟨i', k', m, e2, h, _⟩
          · rw [HP1.out, h]; rfl
          · omega)
        go_wp2_with fail
        go_roundw
        case rel => exact ⟨-1, by go_num, by omega, HX2, HB2, Lib.hid (.inl ⟨rfl, HR3.out⟩)⟩
        case measure => (simp [intOf]; try omega)
      · have HU3 : Hid (∃ (i' k' : Nat) (m : EN) (e2 : Bnd), i = i' ∧ k = k' ∧ i' < p ∧ (nodesOf l)[i']? = some m ∧ EnvAt (nodesOf l) i' e2 ∧ e' = inner m.kind m.text e2 k') := Lib.hid (HU2.out.resolve_left fun h => hi0 h.1)
        obtain ⟨i', k', m, e2, rfl, rfl, hip, hm', hE2, hee⟩ := HU3.out
        have hin : i' < n := by omega
        obtain ⟨b, o, x, hA, hb, hx, hc, hxin, hok⟩ := HL.out.at_ (i := i') hin
        simp only at hA
        subst hA
        have hmx : m = x.1 := by have := nodesOf_at hx; rw [hm'] at this; exact Option.some.inj this
        subst hmx
        have HC := hc.below HB2.out (show b < w.heap.size by omega)
        have q0 := HC.c0
        have q1 := HC.c1
        have cx2 := (HX2.out.cell 0).trans (show _ = some (.slice (some ⟨b, o, none⟩) n c) from rfl)
        have HE2 := Lib.hid hE2
        have HEE := Lib.hid hee
        have hok2 := Lib.hid hok
        clear hc HC hxin hok hx hb hm' hE2 hee HU3 HU2 cx
        obtain ⟨⟨kd, T1, nn, ks⟩, ⟨A', n', c'⟩⟩ := x
        simp only at q0 q1 HEE
        have hg : (0 : Int) ≤ i' := by omega
        by_cases h1 : k' = 1
        · subst h1
          by_cases h2 : 31 ≤ kd
          · have b2 : decide (31 ≤ kd) = true := by simpa using h2
            by_cases h3 : kd ≤ 34
            · have b3 : decide (kd ≤ 34) = true := by simpa using h3
              by_cases h4 : T1 = T
              · subst h4
                have HR3 : Hid (bd = true) := Lib.hid (by rw [HP1.out, HEE.out]; exact inner_yes rfl h2 h3 rfl)
                have b4 : (T1.toList == T1.toList) = true := by simp
                clear h2 h3
                go_wp2_with fail
                go_ret
                exact tellsB HR3.out.symm HB2.out
              · have HR3 : Hid (bd = e2.contains T.data.toList) := Lib.hid (by rw [HP1.out, HEE.out]; exact inner_no fun h => h4 h.2.2.2)
                have b4 : (T1.toList == T.toList) = false := by rw [Lib.toList_data, Lib.toList_data, beq_eq_false_iff_ne]; intro h; exact h4 (by cases T1; cases T; simp at h; rw [h])
                clear h2 h3 h4
                go_wp2_with fail
                go_roundw
                case rel => exact ⟨i', by go_num, by omega, HX2, HB2, Lib.hid (.inr ⟨i', e2, rfl, HE2.out, HR3.out⟩)⟩
                case measure => (simp [intOf]; try omega)
            · have b3 : decide (kd ≤ 34) = false := by simpa using h3
              have HR3 : Hid (bd = e2.contains T.data.toList) := Lib.hid (by rw [HP1.out, HEE.out]; exact inner_no fun h => h3 h.2.2.1)
              clear h2 h3
              go_wp2_with fail
              go_roundw
              case rel => exact ⟨i', by go_num, by omega, HX2, HB2, Lib.hid (.inr ⟨i', e2, rfl, HE2.out, HR3.out⟩)⟩
              case measure => (simp [intOf]; try omega)
          · have b2 : decide (31 ≤ kd) = false := by simpa using h2
            have HR3 : Hid (bd = e2.contains T.data.toList) := Lib.hid (by rw [HP1.out, HEE.out]; exact inner_no fun h => h2 h.2.1)
            clear h2
            go_wp2_with fail
            go_roundw
            case rel => exact ⟨i', by go_num, by omega, HX2, HB2, Lib.hid (.inr ⟨i', e2, rfl, HE2.out, HR3.out⟩)⟩
            case measure => (simp [intOf]; try omega)
        · have b1 : ((k' : Int) == 1) = false := by rw [beq_eq_false_iff_ne]; omega
          have HR3 : Hid (bd = e2.contains T.data.toList) := Lib.hid (by rw [HP1.out, HEE.out]; exact inner_no fun h => h1 h.1)
          go_wp2_with fail
          go_roundw
          case rel => exact ⟨i', by go_num, by omega, HX2, HB2, Lib.hid (.inr ⟨i', e2, rfl, HE2.out, HR3.out⟩)⟩
          case measure => (simp [intOf]; try omega)
end Go.Proofs.YtjlpoigcalfdlaaDoor
namespace Go.Proofs.YtjlpoigcalfdlaaDoor
open Go Go.RowKit Go.Sort
set_option linter.unusedVariables false
theorem OwnI.after {w w' : World} {B : Nat} {v : Value} {l : List Int} (h : OwnI w B v l) (hb : Below w.heap.size w w') : OwnI w' B v l := own_after h hb
theorem OwnI.alloc {w : World} {B : Nat} {v : Value} {l : List Int} (h : OwnI w B v l) (o : Obj) : OwnI (w.alloc o) B v l := World.ownsRow.alloc h o
/-- the boxes of a walk over a node: the expression, the node -/
structure NB (w : World) (A : Option Addr) (n c : Nat) (x : EN × Sl) (W : World) : Prop where
  bel : Below w.heap.size w W
  e : Blk W w.heap.size 24 #[.slice A n c]
  n : Blk W (w.heap.size + 1) 46 (nodeCs x)
theorem NB.after {w : World} {A : Option Addr} {n c : Nat} {x : EN × Sl} {W W' : World} (h : NB w A n c x W) (hb : Below W.heap.size W W') : NB w A n c x W' := ⟨h.bel.trans (hb.mono h.bel.size), h.e.after hb, h.n.after hb⟩
theorem NB.two {w : World} {A : Option Addr} {n c : Nat} {x : EN × Sl} {W : World} (h : NB w A n c x W) : w.heap.size + 2 ≤ W.heap.size := h.n.lt
end Go.Proofs.YtjlpoigcalfdlaaDoor
namespace Go.Proofs.YtjlpoigcalfdlaaDoor
open Go Go.RowKit Go.Sort
set_option linter.unusedVariables false
def firstS : List (Option Nat) → Option Nat
  | [] => none
  | some q :: _ => some q
  | none :: r => firstS r
/-- the first that is wrong, of each tree of a row -/
def Fo.ws : Fo → Nat → (Nat → Bnd) → List (Option Nat)
  | .nil, _, _ => []
  | .cons k s _ a r, p, e => (match firstS (a.ws (p + 1) (inner k s (e 0))) with
    | some q => some q
    | none => if kindV k ((e 0).contains s.data.toList) (a.kr (inner k s (e 0))) = 0 then some p else none) :: r.ws (p + 1 + a.size) (fun j => e (j + 1))
end Go.Proofs.YtjlpoigcalfdlaaDoor

/-
  WALKS over the document's answers for layer 3: Print.
  PLAIN: how a text in quotes is scanned, in lists: there and back, and where it stops. No program stands in it.
  WHAT IS READ IS PRINTED AS IT WAS, in plain mathematics.
  THE NODES IN DOCUMENT ORDER HANG TOGETHER, in plain mathematics, as what is read does.
-/
import Derived.Test.YtjjlofaejpnnnaaGreatDoorZB18
namespace Go.Proofs.YtjjlofaejpnnnaaGreatDoor
open Go Go.RowKit
set_option linter.unusedVariables false
/-- the text of a node's lines -/
def chunkV (nds : List Nd) (x : Int) : List UInt8 := (nodeT nds (x, depthV nds x)).flatten
theorem flat_map {α : Type} (f : α → List (List UInt8)) : ∀ l : List α, (l.flatMap f).flatten = (l.map fun p => (f p).flatten).flatten
  | [] => rfl
  | x :: l => by rw [List.flatMap_cons, List.flatten_append, List.map_cons, List.flatten_cons, flat_map f l]
theorem chunks_pre {next : Int} {nds : List Nd} (hr : RightM next nds) : ((pre nds 64 1 (rootsV nds)).flatMap (nodeT nds)).flatten = ((orderV nds).map (chunkV nds)).flatten := by
  rw [flat_map, ← order_pre hr, List.map_map]
  congr 1
  refine List.map_congr_left fun p hp => ?_
  have h := (pre_mem hr 64 1 1 (rootsV nds) (roots_at hr) p hp).2.2.1
  have e : p.2 = depthV nds p.1 := by omega
  show (nodeT nds p).flatten = chunkV nds p.1
  unfold chunkV
  rw [← e]
theorem printV_order {next : Int} {nds : List Nd} (hrt : rightB next nds = true) : printV next nds = toldV (headL next ++ ((orderV nds).map (chunkV nds)).flatten) := by
  unfold printV
  rw [if_pos hrt, List.flatten_cons, chunks_pre (rightM hrt)]
theorem own_keepF {X Y : World} {B g : Nat} {v : Value} {L : List UInt8} {T : TypeId} {cs : Array Value} (h : ownF X B v L) (hg : X.grownBy Y v.ownBlock) (hb : Blk X g T cs) (hT : (T != 5) = true := by rfl) : Blk Y g T cs := by
  refine hb.grown hg fun he => ?_
  obtain ⟨k, cap, cur, fr, rfl, _, h3, _⟩ := h
  obtain rfl : g = k := Option.some.inj he
  unfold Blk at hb
  rw [h3] at hb
  injection hb with hb
  injection hb with _ h2 _
  subst h2
  simp at hT
/-- the boxes and lists of Print: the model's box, document order, the text so far -/
structure RP (w : World) (next : Int) (A : Option Addr) (n c : Nat) (G : Nat) (ov : Value) (ord : List Int) (v : Value) (L : List UInt8) (X : World) : Prop where
  bel : Below w.heap.size w X
  gG : w.heap.size < G
  m : Blk X w.heap.size 25 #[.int .i64 next, .slice A n c]
  o : ownF X G v L
  d : X.ownsRow G 3 1 ov ord.length (intCells ord)
section
variable {w : World} {next : Int} {A : Option Addr} {n c G : Nat} {ov v : Value} {ord : List Int} {L L' : List UInt8} {X Y : World} {v' : Value}
theorem RP.after (h : RP w next A n c G ov ord v L X) (hb : Below X.heap.size X Y) : RP w next A n c G ov ord v L Y := ⟨h.bel.trans (hb.mono h.bel.size), h.gG, h.m.after hb, h.o.below hb, own_after h.d hb⟩
theorem RP.app (h : RP w next A n c G ov ord v L X) (hg : X.grownBy Y v.ownBlock) (ho : ownF Y G v' L') : RP w next A n c G ov ord v' L' Y := by
  have hgG := h.gG
  refine ⟨h.bel.grown hg h.bel.size (fun k hk => by have := (h.o.lt k hk).1; omega), hgG, own_keepF h.o hg h.m, ho, World.ownsRow.kept h.d hg ?_⟩
  cases hv : ov.ownBlock with
  | none => exact .inl rfl
  | some k =>
    refine .inr fun he => ?_
    obtain ⟨g, cap, cur, fr, rfl, _, h3, _⟩ := h.o
    obtain rfl : k = g := Option.some.inj he
    rcases h.d.2 with ⟨rfl, _⟩ | ⟨g2, cap2, cur2, rfl, _, hg2, _⟩
    · cases hv
    · obtain rfl : g2 = k := Option.some.inj hv
      rw [h3] at hg2
      injection hg2 with hg2
      injection hg2 with _ h5 _
      exact absurd h5 (by decide)
end
theorem RP.sz {w : World} {next : Int} {A : Option Addr} {n c G : Nat} {ov v : Value} {ord : List Int} {L : List UInt8} {X : World} (h : RP w next A n c G ov ord v L X) : G ≤ X.heap.size := by
  obtain ⟨g, cap, cur, fr, rfl, h2, h3, _⟩ := h.o
  have := (Array.getElem?_eq_some_iff.1 h3).1
  omega
/-- a node as Find told it, in a variable of its own -/
structure RNd (w : World) (next : Int) (A : Option Addr) (n c : Nat) (G : Nat) (ov : Value) (ord : List Int) (v : Value) (L : List UInt8) (hi : Nat) (nd : Nd) (M : Leaf) (gn : Nat) (X : World) : Prop where
  r : RP w next A n c G ov ord v L X
  b : Blk X gn 55 #[.int .i64 nd.id, .string nd.con, .int .i64 nd.par, .string nd.role, .slice M.p.A M.p.n M.p.c, .slice M.k.A M.k.n M.k.c, .slice M.r.A M.r.n M.r.c]
  l : LeafIn X 0 hi nd M
section
variable {w : World} {next : Int} {A : Option Addr} {n c G : Nat} {ov v : Value} {ord : List Int} {L L' : List UInt8} {X Y : World} {v' : Value} {hi gn : Nat} {nd : Nd} {M : Leaf}
theorem RNd.after (h : RNd w next A n c G ov ord v L hi nd M gn X) (hh : hi ≤ w.heap.size) (hb : Below X.heap.size X Y) : RNd w next A n c G ov ord v L hi nd M gn Y := ⟨h.r.after hb, h.b.after hb, h.l.below (hb.mono (Nat.le_trans hh h.r.bel.size))⟩
theorem RNd.app (h : RNd w next A n c G ov ord v L hi nd M gn X) (hh : hi ≤ w.heap.size) (hg : X.grownBy Y v.ownBlock) (ho : ownF Y G v' L') : RNd w next A n c G ov ord v' L' hi nd M gn Y := by
  have hgG := h.r.gG
  refine ⟨h.r.app hg ho, own_keepF h.r.o hg h.b, h.l.below (w' := Y) ?_⟩
  exact (Below.refl hi X).grown hg (Nat.le_trans hh h.r.bel.size) (fun k hk => by have := (h.r.o.lt k hk).1; omega)
end
end Go.Proofs.YtjjlofaejpnnnaaGreatDoor
namespace Go.Proofs.YtjjlofaejpnnnaaGreatDoor
open Go
set_option linter.unusedVariables false
theorem stepL_some {r : List UInt8} {m b : Nat} (h : stepL r = (m, some b)) : 1 ≤ m ∧ r ≠ [] := by
  cases r with
  | nil => simp [stepL] at h
  | cons x t =>
    simp only [stepL] at h
    split at h
    · simp only [Prod.mk.injEq] at h; exact ⟨by omega, by simp⟩
    · split at h
      · simp at h
      · simp only [Prod.mk.injEq] at h; exact ⟨by omega, by simp⟩
def scanL (r : List UInt8) : Option (List UInt8) × Nat :=
  if r = [] then (none, 0)
  else if r.head? = some 34 then (some [], 1)
  else match hs : stepL r with
    | (m, some b) => ((scanL (r.drop m)).1.map (UInt8.ofNat b :: ·), m + (scanL (r.drop m)).2)
    | (m, none) => (none, m)
termination_by r.length
decreasing_by all_goals (have h := stepL_some hs; rw [List.length_drop]; have : 0 < r.length := List.length_pos_iff.2 h.2; omega)
theorem scanL_nil : scanL [] = (none, 0) := by rw [scanL, if_pos rfl]
theorem scanL_quote (v : List UInt8) : scanL (34 :: v) = (some [], 1) := by rw [scanL, if_neg (by simp), if_pos (by simp)]
theorem scanL_some {r : List UInt8} {m b : Nat} (h34 : r.head? ≠ some 34) (h : stepL r = (m, some b)) : scanL r = ((scanL (r.drop m)).1.map (UInt8.ofNat b :: ·), m + (scanL (r.drop m)).2) := by
  rw [scanL, if_neg (stepL_some h).2, if_neg h34]
  split
  · rename_i m' b' hq
    rw [h] at hq
    simp only [Prod.mk.injEq, Option.some.injEq] at hq
    obtain ⟨rfl, rfl⟩ := hq
    rfl
  · rename_i m' hq
    rw [h] at hq; simp at hq
theorem scanL_stop {r : List UInt8} {m : Nat} (hne : r ≠ []) (h34 : r.head? ≠ some 34) (h : stepL r = (m, none)) : scanL r = (none, m) := by
  rw [scanL, if_neg hne, if_neg h34]
  split
  · rename_i m' b' hq
    rw [h] at hq; simp at hq
  · rename_i m' hq
    rw [h] at hq
    simp only [Prod.mk.injEq] at hq
    rw [hq.1]
theorem form_head (c : UInt8) (v : List UInt8) : (form c ++ v).head? ≠ some 34 := by
  rcases form_cases c with ⟨h, e⟩ | ⟨h, e⟩ | ⟨h, e⟩ | ⟨h1, h2, h3, h4, e⟩
  · rw [e]; simp
  · rw [e]; simp
  · rw [e]; simp
  · rw [e]; simp; intro hc; exact h1 (by rw [hc]; rfl)
theorem scanL_form (c : UInt8) (v : List UInt8) : scanL (form c ++ v) = ((scanL v).1.map (c :: ·), (form c).length + (scanL v).2) := by
  have h := scanL_some (form_head c v) (step_of_form c v)
  rw [h, List.drop_left]
  have e : UInt8.ofNat c.toNat = c := by simp
  rw [e]
/-- each text begins in one of four ways -/
theorem scan_ways (r : List UInt8) : r = [] ∨ (∃ v, r = 34 :: v) ∨ (∃ c v, r = form c ++ v) ∨ (r ≠ [] ∧ r.head? ≠ some 34 ∧ ∃ m, stepL r = (m, none)) := by
  by_cases h0 : r = []
  · exact .inl h0
  · by_cases h34 : r.head? = some 34
    · right; left
      cases r with
      | nil => exact absurd rfl h0
      | cons x t => simp at h34; exact ⟨t, by rw [h34]⟩
    · right; right
      rcases hs : stepL r with ⟨m, o⟩
      cases o with
      | none => exact .inr ⟨h0, h34, m, rfl⟩
      | some b =>
        left
        obtain ⟨t, ht⟩ := form_of_step (fun x t e => by
          rw [e] at h34; simp at h34
          intro hx; exact h34 (UInt8.toNat_inj.1 hx)) hs
        exact ⟨_, t, ht⟩
/-- what is put in quotes is read back, whatever stands behind -/
theorem scanL_back (l v : List UInt8) : scanL (l.flatMap form ++ 34 :: v) = (some l, (l.flatMap form).length + 1) := by
  induction l with
  | nil => simpa using scanL_quote v
  | cons c l ih =>
    rw [List.flatMap_cons, List.append_assoc, scanL_form, ih, List.length_append]
    simp; omega
/-- what is read has just those quotes -/
theorem scanL_is : ∀ (k : Nat) (r l : List UInt8) (n : Nat), r.length ≤ k → scanL r = (some l, n) → r.take n = l.flatMap form ++ [34] ∧ n ≤ r.length := by
  intro k
  induction k with
  | zero =>
    intro r l n hk h
    obtain rfl : r = [] := List.length_eq_zero_iff.1 (by omega)
    rw [scanL_nil] at h; simp at h
  | succ k ih =>
    intro r l n hk h
    rcases scan_ways r with rfl | ⟨v, rfl⟩ | ⟨c, v, rfl⟩ | ⟨h0, h34, m, hm⟩
    · rw [scanL_nil] at h; simp at h
    · rw [scanL_quote] at h
      simp only [Prod.mk.injEq, Option.some.injEq] at h
      obtain ⟨rfl, rfl⟩ := h
      exact ⟨by simp, by simp⟩
    · rw [scanL_form] at h
      simp only [Prod.mk.injEq, Option.map_eq_some_iff] at h
      obtain ⟨⟨l', hl', rfl⟩, rfl⟩ := h
      have hf := form_length c
      have := ih v l' (scanL v).2 (by rw [List.length_append] at hk; omega) (by rw [← hl'])
      refine ⟨?_, by rw [List.length_append]; omega⟩
      rw [List.take_length_add_append, this.1]; simp
    · rw [scanL_stop h0 h34 hm] at h; simp at h
theorem scan_list (s : ByteArray) : ∀ (k i : Nat), s.size - i ≤ k → i ≤ s.size → scan s i = ((scanL (s.data.toList.drop i)).1, i + (scanL (s.data.toList.drop i)).2) := by
  intro k
  induction k with
  | zero =>
    intro i hk hi
    have hlt : ¬ i < s.size := by omega
    rw [scan_end hlt, drop_none s i hlt, scanL_nil]; rfl
  | succ k ih =>
    intro i hk hi
    by_cases hlt : i < s.size
    · have hd := drop_get s i hlt
      by_cases h34 : s[i].toNat = 34
      · have e : s[i] = 34 := UInt8.toNat_inj.1 h34
        rw [scan_quote hlt h34, hd, e, scanL_quote]
      · have hh : (s.data.toList.drop i).head? ≠ some 34 := by
          rw [hd]; simp; intro e; exact h34 (by rw [e]; rfl)
        rcases hst : stepAt s i hlt with ⟨n, o⟩
        have hL := stepAt_eq s i hlt
        rw [hst] at hL
        cases o with
        | none =>
          rw [scan_stop hlt h34 hst, scanL_stop (by rw [hd]; simp) hh hL.symm]
        | some b =>
          have hle := stepAt_le hst
          rw [scan_step hlt h34 hst, scanL_some hh hL.symm, ih (i + n) (by have := (hle.2 b rfl).2; omega) hle.1, List.drop_drop]
          simp only [Prod.mk.injEq]
          exact ⟨trivial, by omega⟩
    · rw [scan_end hlt, drop_none s i hlt, scanL_nil]; rfl
theorem scan_at (s : ByteArray) (i : Nat) (hi : i ≤ s.size) : scan s i = ((scanL (s.data.toList.drop i)).1, i + (scanL (s.data.toList.drop i)).2) := scan_list s _ i (Nat.le_refl _) hi
theorem unq_quote {s : ByteArray} {t : Nat} {r : List UInt8} (h : s.data.toList.drop t = 34 :: r) : unq s t = (match scanL r with | (some l, n) => (l, ((t + 1 + n : Nat) : Int), 0) | (none, n) => ([], ((t + 1 + n : Nat) : Int), 10)) := by
  have ht : t < s.size := by
    by_cases hlt : t < s.size
    · exact hlt
    · rw [drop_none s t hlt] at h; cases h
  have hd := drop_get s t ht
  rw [h] at hd
  obtain ⟨e1, e2⟩ := List.cons.inj hd
  have hq : s[t].toNat = 34 := by rw [← e1]; rfl
  have hsc := scan_at s (t + 1) (by omega)
  rw [← e2] at hsc
  unfold unq
  rw [if_neg (by omega)]
  simp only [Int.toNat_natCast]
  rw [dif_pos ht, if_pos hq, hsc]
  rcases scanL r with ⟨o, n⟩
  cases o <;> rfl
theorem unq_other {s : ByteArray} {t : Nat} (ht : t ≤ s.size) (h : (s.data.toList.drop t).head? ≠ some 34) : unq s t = ([], (t : Int), 10) := by
  unfold unq
  rw [if_neg (by omega)]
  simp only [Int.toNat_natCast]
  split
  · rename_i hlt
    rw [if_neg]
    intro e
    apply h
    rw [drop_get s t hlt]
    simp
    exact UInt8.toNat_inj.1 e
  · rfl
end Go.Proofs.YtjjlofaejpnnnaaGreatDoor
namespace Go.Proofs.YtjjlofaejpnnnaaGreatDoor
open Go Go.RowKit
set_option linter.unusedVariables false
theorem unq_frontS (t : ByteArray) : (∃ l k, unq t 0 = (l, ((k : Nat) : Int), 0) ∧ 2 ≤ k ∧ k ≤ t.size ∧ t.data.toList.take k = quote l) ∨ (∃ n, unq t 0 = ([], n, 10)) := by
  by_cases hq : (t.data.toList.drop 0).head? = some 34
  · obtain ⟨r, hr⟩ : ∃ r, t.data.toList.drop 0 = 34 :: r := by
      cases h : t.data.toList.drop 0 with
      | nil => rw [h] at hq; cases hq
      | cons x r => rw [h] at hq; simp at hq; exact ⟨r, by rw [hq]⟩
    have hu := unq_quote hr
    have hl : (t.data.toList.drop 0).length = t.size := by simp
    rw [hr, List.length_cons] at hl
    rcases hs : scanL r with ⟨o, n⟩
    rw [hs] at hu
    cases o with
    | some l =>
      left
      have hi := scanL_is r.length r l n (Nat.le_refl _) hs
      have h1 : 1 ≤ n := by
        have := congrArg List.length hi.1
        rw [List.length_take, List.length_append] at this
        simp at this; omega
      refine ⟨l, 0 + 1 + n, hu, by omega, by omega, ?_⟩
      have e : t.data.toList = 34 :: r := by simpa using hr
      have e2 : 0 + 1 + n = n + 1 := by omega
      rw [e, e2, List.take_succ_cons, hi.1]
      rfl
    | none => right; exact ⟨_, hu⟩
  · right; exact ⟨_, unq_other (t := 0) (Nat.zero_le _) hq⟩
/-- the lines of a node that stands so deep -/
def txtN (nd : Nd) (d : Nat) : List UInt8 := (nodeL nd d).flatten
/-- the text of what has been read -/
def textV (st : RS) : List UInt8 := headL st.next ++ (List.zipWith txtN st.nds st.deep).flatten
theorem txtN_kids {nd nd' : Nd} (h1 : nd'.id = nd.id) (h2 : nd'.con = nd.con) (h3 : nd'.par = nd.par) (h4 : nd'.role = nd.role) (h5 : nd'.props = nd.props) (h6 : nd'.refs = nd.refs) (d : Nat) : txtN nd' d = txtN nd d := by
  unfold txtN nodeL lineN
  rw [h1, h2, h3, h4, h5, h6]
theorem txtN_bare {nd : Nd} (h1 : nd.props = []) (h2 : nd.refs = []) (d : Nat) : txtN nd d = lineN nd d := by
  unfold txtN nodeL
  rw [h1, h2]
  simp
theorem text_last {st : RS} {nd nd' : Nd} {t : List UInt8} (hl : st.nds.getLast? = some nd) (hdl : st.deep.length = st.nds.length) (h : txtN nd' (st.deep.getLastD 0) = txtN nd (st.deep.getLastD 0) ++ t) : textV (lastV st nd') = textV st ++ t := by
  have e1 := last_split hl
  have hne : st.deep ≠ [] := fun e => by
    have := (last_get hl).1
    rw [e] at hdl
    simp at hdl
    omega
  have e2 : st.deep = st.deep.dropLast ++ [st.deep.getLastD 0] := by
    have h1 := (List.dropLast_concat_getLast hne).symm
    have h2 : st.deep.getLastD 0 = st.deep.getLast hne := by rw [List.getLastD_eq_getLast?, List.getLast?_eq_some_getLast hne]; rfl
    rw [h2]; exact h1
  have hlen : st.nds.dropLast.length = st.deep.dropLast.length := by rw [List.length_dropLast, List.length_dropLast, hdl]
  unfold textV
  show headL st.next ++ (List.zipWith txtN (st.nds.dropLast ++ [nd']) st.deep).flatten = _
  have e3 : List.zipWith txtN (st.nds.dropLast ++ [nd']) st.deep = List.zipWith txtN st.nds.dropLast st.deep.dropLast ++ [txtN nd' (st.deep.getLastD 0)] := by
    conv => lhs; rw [e2]
    exact zipSnoc txtN _ _ hlen
  have e4 : List.zipWith txtN st.nds st.deep = List.zipWith txtN st.nds.dropLast st.deep.dropLast ++ [txtN nd (st.deep.getLastD 0)] := by
    conv => lhs; rw [e1, e2]
    exact zipSnoc txtN _ _ hlen
  rw [e3, e4, List.flatten_append, List.flatten_append, h]
  simp
section
variable {s : ByteArray} {st st' : RS} {d : Nat}
theorem word_split (i : Nat) : s.data.toList.drop i = (wordAt s i).data.toList ++ s.data.toList.drop (i + (wordAt s i).size) := by
  rw [← behind_size, wordAt_is]
  have := List.prefix_iff_eq_take.1 (List.takeWhile_prefix (p := fun c => c != 32 && c != 61) (l := s.data.toList.drop i))
  conv => lhs; rw [← List.take_append_drop (wordP (s.data.toList.drop i)).length (s.data.toList.drop i)]
  congr 1
  exact this.symm
theorem stepW_split {p q : Nat} {x : ByteArray} (h : stepW s p = some (x, q)) : s.data.toList.drop p = 32 :: (x.data.toList ++ s.data.toList.drop q) := by
  unfold stepW at h
  split at h
  · rename_i hlt
    split at h
    · rename_i hc
      obtain ⟨rfl, rfl⟩ := Prod.mk.inj (Option.some.inj h)
      rw [drop_get' s p hlt, ← word_split, show s[p] = 32 from UInt8.toNat_inj.1 (by rw [hc.1]; rfl)]
    · cases h
  · cases h
theorem blank_split (hd : blanksV s.data.toList = d) : s.data.toList = bl d ++ s.data.toList.drop d := by
  unfold blanksV at hd
  have h1 : s.data.toList.takeWhile (· == 32) = bl d := by
    unfold bl
    rw [← hd]
    exact List.eq_replicate_of_mem fun x hx => by have := takeWhile_mem hx; simpa using this
  have h2 := List.prefix_iff_eq_take.1 (List.takeWhile_prefix (p := (· == 32)) (l := s.data.toList))
  rw [hd, h1] at h2
  rw [h2, List.take_append_drop]
theorem nodeR_text {id : Int} {p : Nat} (h : nodeR st s d id 0 ByteArray.empty ByteArray.empty p = some st') : ∃ role con, (d = 0 ∧ role = ByteArray.empty ∨ d ≠ 0 ∧ wordB role = true) ∧ s.data.toList.drop p = 32 :: ((if d = 0 then [] else role.data.toList ++ [32]) ++ con.data.toList) ∧ standsV st ⟨id, con, 0, role, [], [], []⟩ d = some st' := by
  have hend : s.data.toList.drop s.size = [] := List.drop_eq_nil_of_le (by rw [toList_eq]; exact Nat.le_refl _)
  rw [nodeR0] at h
  split at h
  · rename_i hd
    obtain ⟨⟨x, q⟩, hq, h⟩ := Option.bind_eq_some_iff.1 h
    simp only at h
    split at h
    · rename_i hqs
      refine ⟨_, _, .inl ⟨hd, rfl⟩, ?_, h⟩
      rw [stepW_split hq, hqs, hend, if_pos hd]
      simp
    · cases h
  · rename_i hd
    obtain ⟨⟨y, r⟩, hr, h⟩ := Option.bind_eq_some_iff.1 h
    obtain ⟨⟨x, q⟩, hq, h⟩ := Option.bind_eq_some_iff.1 h
    simp only at h hq
    split at h
    · rename_i hqs
      refine ⟨_, _, .inr ⟨hd, stepW_out hr⟩, ?_, h⟩
      rw [stepW_split hr, stepW_split hq, hqs, hend, if_neg hd]
      simp
    · cases h
theorem stands_text {n : Nd} (hok : RsOk st) (h1 : n.par = 0) (h2 : n.props = []) (h3 : n.refs = []) (h : standsV st n d = some st') :
    textV st' = textV st ++ (bl d ++ (Lib.itoa n.id ++ 32 :: ((if d = 0 then [] else n.role.data.toList ++ [32]) ++ n.con.data.toList)) ++ [10]) := by
  have hst := standsV_stood h
  rw [standsV_is hok.dl hok.dk] at h
  split at h
  · cases h
  · obtain rfl := Option.some.inj h
    rcases Nat.eq_zero_or_pos d with rfl | hd0
    · have e : stoodV st n 0 = ⟨st.next, st.nds ++ [n], st.deep ++ [1]⟩ := by unfold stoodV; rw [if_pos rfl]
      rw [e]
      unfold textV
      simp only
      rw [zipSnoc txtN n 1 hok.dl.symm, List.flatten_append, txtN_bare h2 h3]
      unfold lineN
      rw [if_pos h1]
      simp
    · obtain ⟨i, nd, hsa⟩ := stood_at hok.dl hok.dk n hd0 hst.dle
      rw [hsa.is]
      unfold textV
      simp only
      rw [zipSnoc txtN { n with par := nd.id } (d + 1) (by rw [List.length_set]; exact hok.dl.symm), List.flatten_append, txtN_bare (nd := { n with par := nd.id }) h2 h3]
      have e1 : List.zipWith txtN (st.nds.set i { nd with kids := nd.kids ++ [n.id] }) st.deep = List.zipWith txtN st.nds st.deep := by
        apply List.ext_getElem?
        intro j
        rw [List.getElem?_zipWith, List.getElem?_zipWith, List.getElem?_set]
        by_cases hj : i = j
        · subst hj
          rw [if_pos rfl, if_pos (List.getElem?_eq_some_iff.1 hsa.at_).1, hsa.at_]
          cases st.deep[i]? with
          | none => rfl
          | some x =>
            simp only [Option.some.injEq]
            exact txtN_kids rfl rfl rfl rfl rfl rfl x
        · rw [if_neg hj]
      have hid := (hok.id nd.id (List.mem_map_of_mem (List.mem_of_getElem? hsa.at_))).1
      rw [e1]
      unfold lineN
      rw [if_neg (show ¬ ({ n with par := nd.id } : Nd).par = 0 by show ¬ nd.id = 0; omega), if_neg (by omega)]
      simp
theorem unq_whole {v : List UInt8} {l : List UInt8} {k : Int} (h1 : (unq (bytesOf v) 0).2.2 = 0) (h2 : (unq (bytesOf v) 0).2.1 = (v.length : Int)) : v = quote (unq (bytesOf v) 0).1 := by
  rcases unq_frontS (bytesOf v) with ⟨l, k, hu, _, _, hq⟩ | ⟨n, hu⟩
  · rw [hu] at h2 ⊢
    simp only at h2
    have hk : k = v.length := by omega
    rw [hk] at hq
    show v = quote l
    rw [← hq]
    exact (List.take_of_length_le (Nat.le_refl _)).symm
  · rw [hu] at h1
    exact absurd (show (10 : Int) = 0 from h1) (by decide)
/-- a line more -/
theorem line_text (hok : RsOk st) (h0 : st.next ≠ 0) (h : takesV st s.data.toList = some st') : textV st' = textV st ++ (s.data.toList ++ [10]) := by
  obtain ⟨d, hd⟩ : ∃ d, blanksV s.data.toList = d := ⟨_, rfl⟩
  have hle := blanksV_le s.data.toList
  rw [hd, toList_eq] at hle
  have hbs := blank_split hd
  by_cases hlt : d < s.size
  · rw [takesV_sub h0 hd hlt] at h
    have e := drop_get' s d hlt
    split at h
    · rename_i hc
      cases hl : st.nds.getLast? with
      | none => rw [hl] at h; cases h
      | some nd =>
        rw [hl] at h
        have hws := word_split (s := s) (d + 1)
        cases hx : s.data.toList.drop (d + 1 + (wordAt s (d + 1)).size) with
        | nil => rw [hx] at h; cases h
        | cons x v =>
          rw [hx] at h hws
          simp only at h
          split at h
          · rename_i hy
            rw [hy.2.1] at hws
            split at h
            · rename_i h62
              have e62 : s[d] = 62 := UInt8.toNat_inj.1 (by rw [h62]; rfl)
              unfold refersV at h
              cases hn : numberV v st.next with
              | none => rw [hn] at h; cases h
              | some y =>
                rw [hn] at h
                simp only at h
                split at h
                · obtain rfl := Option.some.inj h
                  rw [bytesOf_isP]
                  refine text_last hl hok.dl ?_
                  have hv := (intT_out (numberV_some hn).1).1
                  unfold txtN nodeL
                  simp only [List.map_append, List.map_cons, List.map_nil, List.flatten_cons, List.flatten_append, List.flatten_nil, List.append_nil]
                  rw [← hy.1]
                  conv => rhs; rw [hbs, e, e62, hws]
                  simp [lineN, lineR, hv]
                · cases h
            · rename_i h62
              have e46 : s[d] = 46 := UInt8.toNat_inj.1 (by have := hc.resolve_right h62; rw [this]; rfl)
              unfold hasV at h
              simp only at h
              split at h
              · rename_i hcc
                obtain rfl := Option.some.inj h
                rw [bytesOf_isP]
                refine text_last hl hok.dl ?_
                have hv := unq_whole (l := []) (k := 0) hcc.1 hcc.2.1
                generalize (unq (bytesOf v) 0).1 = V at hv hcc ⊢
                unfold txtN nodeL
                simp only [hcc.2.2.2.1, List.map_append, List.map_cons, List.map_nil, List.flatten_cons, List.flatten_append, List.flatten_nil, List.append_nil]
                rw [← hy.1]
                conv => rhs; rw [hbs, e, e46, hws, hv]
                simp [lineN, lineP, bytesOf_list]
              · cases h
          · cases h
    · obtain ⟨id, hid, h⟩ := Option.bind_eq_some_iff.1 h
      rw [nodeV_is] at h
      obtain ⟨role, con, hr, hc, hs⟩ := nodeR_text h
      have hi := (intT_out (numberV_some hid).1).1
      rw [stands_text hok rfl rfl rfl hs]
      conv => rhs; rw [hbs, word_split (s := s) d, hc, ← hi]
      try simp
  · exfalso
    have hb : takesV st s.data.toList = none := by
      unfold takesV
      rw [if_neg h0]
      simp only
      have : s.data.toList.drop (s.data.toList.takeWhile (· == 32)).length = [] := List.drop_eq_nil_of_le (by rw [toList_eq]; unfold blanksV at hd; omega)
      rw [this]
    rw [hb] at h; cases h
end
theorem first_text {st st' : RS} {l : List UInt8} (h0 : st.next = 0) (h : takesV st l = some st') : textV st' = l ++ [10] := by
  unfold takesV at h
  rw [if_pos h0] at h
  split at h
  · rename_i hc
    obtain ⟨n, hn, rfl⟩ := Option.map_eq_some_iff.1 h
    have hv := (intT_out (numberV_some hn).1).1
    unfold textV headL
    simp only [List.zipWith_nil_left, List.flatten_nil, List.append_nil]
    rw [hv, ← hc.2, List.take_append_drop]
  · cases h
/-- all lines -/
theorem lines_text : ∀ (f : Nat) (st : RS) (c : Nat) (l : List UInt8) (fin : RS), (st.next = 0 → st.nds = []) → (st.next ≠ 0 → RsOk st ∧ RsTree st) → linesV f st c l = .inl fin → textV fin = (if st.next = 0 then [] else textV st) ++ l
  | 0, _, _, _, _, _, _, h => by cases h
  | f + 1, st, c, l, fin, h0, h1, h => by
    have e : linesV (f + 1) st c l = match takesV st (cutA 10 l), l.drop (cutA 10 l).length with
      | some st', _ :: rest => if rest = [] then .inl st' else linesV f st' (c + 1) rest
      | _, _ => .inr (c + 1) := rfl
    rw [e] at h
    cases ht : takesV st (cutA 10 l) with
    | none => rw [ht] at h; cases h
    | some st' =>
      rw [ht] at h
      have hcut : l = cutA 10 l ++ l.drop (cutA 10 l).length := by
        have := List.prefix_iff_eq_take.1 (List.takeWhile_prefix (p := (· != 10)) (l := l))
        conv => lhs; rw [← List.take_append_drop (cutA 10 l).length l]
        congr 1
        exact this.symm
      have h10 : ∀ x rest, l.drop (cutA 10 l).length = x :: rest → x = 10 := fun x rest hx => by
        have key : ∀ (l : List UInt8), ∀ x t, l.drop (l.takeWhile (· != 10)).length = x :: t → x = 10 := by
          intro l
          induction l with
          | nil => intro x t h; simp at h
          | cons y l ih =>
            intro x t h
            rw [List.takeWhile_cons] at h
            split at h
            · rw [List.length_cons, List.drop_succ_cons] at h
              exact ih x t h
            · rename_i hy
              simp only [List.length_nil, List.drop_zero] at h
              injection h with h1 _
              subst h1
              simpa using hy
        exact key l x rest hx
      have hT : textV st' = (if st.next = 0 then [] else textV st) ++ (cutA 10 l ++ [10]) := by
        by_cases hz : st.next = 0
        · rw [if_pos hz, List.nil_append]
          exact first_text hz ht
        · rw [if_neg hz]
          exact line_text (s := bytesOf (cutA 10 l)) (h1 hz).1 hz ht
      obtain ⟨a1, a2, a3, _⟩ := line_step h0 h1 ht
      cases hd : l.drop (cutA 10 l).length with
      | nil => rw [hd] at h; cases h
      | cons x rest =>
        have hx := h10 x rest hd
        rw [hd] at h hcut
        simp only at h
        split at h
        · rename_i hr
          obtain rfl := Sum.inl.inj h
          rw [hT]
          conv => rhs; rw [hcut, hx, hr]
        · have ih := lines_text f st' (c + 1) rest fin (fun h => absurd h a1) (fun _ => ⟨a2, a3⟩) h
          rw [ih, if_neg a1, hT]
          conv => rhs; rw [hcut, hx]
          simp
theorem depth_read {st : RS} (hok : RsOk st) (ht : RsTree st) : ∀ (m : Nat) (e : EE), e ∈ entE st → e.1.2.1 = m → depthV (sortV st.nds) e.1.1 = m := by
  have hR := rightM (order_read hok ht).1
  intro m
  induction m with
  | zero =>
    intro e he hm
    obtain ⟨nd, d, _, hd, rfl⟩ := ent_mem he
    have := (hok.dk.pos d hd).1
    have hm' : d = 0 := hm
    omega
  | succ m ih =>
    intro e he hm
    have hp := ht.par e he
    obtain ⟨nd, d, hnd, hd, rfl⟩ := ent_mem he
    have hs := (hR.step (mem_sort.2 hnd)).1
    show depthV (sortV st.nds) nd.id = m + 1
    rw [hs]
    have hm' : d = m + 1 := hm
    rcases hp with ⟨h1, h2, _⟩ | ⟨h1, _, q, hq, h3, _, h5⟩
    · have h1' : d = 1 := h1
      have h2' : nd.par = 0 := h2
      rw [h2', depth_root.2]; omega
    · have h3' : q.1.1 = nd.par := h3
      have h5' : q.1.2.1 + 1 = d := h5
      rw [← h3', ih q hq (by omega)]
/-- what is read is printed as it was -/
theorem print_read {l : List UInt8} {fin : RS} (hl : l.length ≤ 1048576) (h : linesV (l.length + 1) ⟨0, [], []⟩ 0 l = .inl fin) : printV fin.next (sortV fin.nds) = (l, 0) := by
  obtain ⟨_, hok, ht⟩ := read_fin h
  obtain ⟨hB, hO⟩ := order_read hok ht
  have hR := rightM hB
  have hT := lines_text _ _ 0 l fin (fun _ => rfl) (fun h => absurd rfl h) h
  rw [if_pos rfl, List.nil_append] at hT
  rw [printV_order hB, hO]
  have e : (idsOf fin).map (chunkV (sortV fin.nds)) = List.zipWith txtN fin.nds fin.deep := by
    apply List.ext_getElem?
    intro i
    unfold idsOf
    rw [List.map_map, List.getElem?_map, List.getElem?_zipWith]
    cases hn : fin.nds[i]? with
    | none => rfl
    | some nd =>
      have hlt := (List.getElem?_eq_some_iff.1 hn).1
      obtain ⟨d, hd⟩ : ∃ d, fin.deep[i]? = some d := ⟨_, List.getElem?_eq_getElem (by rw [hok.dl]; exact hlt)⟩
      rw [hd]
      simp only [Option.map_some, Function.comp]
      have hdp := depth_read hok ht d _ (List.mem_of_getElem? (entE_at hn hd)) rfl
      have hdp' : depthV (sortV fin.nds) nd.id = d := hdp
      unfold chunkV nodeT
      simp only
      rw [(ndOf_mem hR.rise).2 ⟨mem_sort.2 (List.mem_of_getElem? hn), rfl⟩, hdp']
      rfl
  rw [e]
  show toldV (textV fin) = _
  rw [hT]
  unfold toldV
  rw [if_neg (by omega)]
end Go.Proofs.YtjjlofaejpnnnaaGreatDoor
namespace Go.Proofs.YtjjlofaejpnnnaaGreatDoor
open Go Go.RowKit
set_option linter.unusedVariables false
/-- the nodes in document order, from level D on -/
def listN (N : List Nd) : Nat → Nat → List Int → List (Nd × Nat)
  | 0, _, _ => []
  | f + 1, D, ids => ids.flatMap fun x => match ndOf N x with
    | some nd => (nd, D) :: listN N f (D + 1) nd.kids
    | none => []
def entP (p : Nd × Nat) : EE := entF p.1 p.2
theorem listN_nil (N : List Nd) (f D : Nat) : listN N f D [] = [] := by cases f <;> simp [listN]
theorem listN_cons (N : List Nd) (f D : Nat) (x : Int) (r : List Int) : listN N f D (x :: r) = listN N f D [x] ++ listN N f D r := by
  cases f with
  | zero => rfl
  | succ f => simp [listN]
theorem listN_one {N : List Nd} {x : Int} {nd : Nd} (h : ndOf N x = some nd) (f D : Nat) : listN N (f + 1) D [x] = (nd, D) :: listN N f (D + 1) nd.kids := by
  simp [listN, h]
theorem listN_low {N : List Nd} : ∀ (f D : Nat) (ids : List Int), ∀ p ∈ listN N f D ids, D ≤ p.2
  | 0, _, _, p, h => by simp [listN] at h
  | f + 1, D, ids, p, h => by
    simp only [listN, List.mem_flatMap] at h
    obtain ⟨x, _, h⟩ := h
    cases hx : ndOf N x with
    | none => rw [hx] at h; cases h
    | some nd =>
      rw [hx] at h
      rcases List.mem_cons.1 h with rfl | h
      · exact Nat.le_refl _
      · have := listN_low f (D + 1) nd.kids p h; omega
theorem listN_head {N : List Nd} {f D : Nat} {ids : List Int} : ∀ p ∈ (listN N f D ids).head?, p.2 = D := by
  cases f with
  | zero => intro p h; cases h
  | succ f =>
    induction ids with
    | nil => intro p h; rw [listN_nil] at h; cases h
    | cons x r ih =>
      intro p h
      rw [listN_cons] at h
      cases hx : ndOf N x with
      | none =>
        have e : listN N (f + 1) D [x] = [] := by simp [listN, hx]
        rw [e, List.nil_append] at h
        exact ih p h
      | some nd =>
        rw [listN_one hx] at h
        have : (nd, D) = p := by simpa using h
        rw [← this]
theorem FT_app {k : Nat} {L M : List TE} (h : ∀ x ∈ M.head?, x.2.1 ≤ k) : FT k (L ++ M) = FT k L := by
  unfold FT
  by_cases ha : ∀ x ∈ L, k < x.2.1
  · rw [segT_app_in ha, segT_all ha]
    cases M with
    | nil => rw [segT_nil, List.append_nil]
    | cons y M => rw [segT_cons_out (by have := h y (by simp); omega), List.append_nil]
  · rw [segT_app_out (by
      apply Classical.byContradiction
      intro hc
      exact ha fun x hx => Classical.byContradiction fun hn => hc ⟨x, hx, hn⟩)]
theorem WFE.app : ∀ {A B : List EE}, WFE A → WFE B → (∀ b ∈ B.head?, ∀ a ∈ A, b.1.2.1 ≤ a.1.2.1) → WFE (A ++ B)
  | [], _, _, h, _ => h
  | e :: A, B, h, hB, hd => by
    have eF : FT e.1.2.1 ((A ++ B).map (·.1)) = FT e.1.2.1 (A.map (·.1)) := by
      rw [List.map_append]
      refine FT_app fun x hx => ?_
      rw [List.head?_map] at hx
      obtain ⟨b, hb, rfl⟩ := Option.map_eq_some_iff.1 hx
      exact hd b hb e (by simp)
    refine ⟨?_, ?_, WFE.app h.2.2 hB fun b hb a ha => hd b hb a (by simp [ha])⟩
    · show e.2.1 = (FT e.1.2.1 ((A ++ B).map (·.1))).map (·.1)
      rw [eF]; exact h.1
    · show ∀ x ∈ FT e.1.2.1 ((A ++ B).map (·.1)), x.2.2 = e.1.1
      rw [eF]; exact h.2.1
theorem StepT.app : ∀ {A B : List TE}, StepT A → StepT B → (∀ b ∈ B.head?, ∀ a ∈ A.getLast?, b.2.1 ≤ a.2.1 + 1) → StepT (A ++ B)
  | [], _, _, h, _ => h
  | [e], B, h, hB, hd => ⟨fun x hx => hd x (by simpa using hx) e (by simp), hB⟩
  | e :: f :: A, B, h, hB, hd => ⟨fun x hx => h.1 x (by simpa using hx), StepT.app (A := f :: A) h.2 hB fun b hb a ha => hd b hb a (by simpa using ha)⟩
section
variable {next : Int} {N : List Nd}
/-- those that stand first in a list -/
theorem listN_firsts (hR : RightM next N) : ∀ (f D : Nat) (ids : List Int), (∀ x ∈ ids, ∃ nd, ndOf N x = some nd) → 0 < f ∨ ids = [] → (((listN N f D ids).map fun p => (entP p).1).filter fun e => e.2.1 == D).map (·.1) = ids
  | 0, D, ids, _, h => by
    rcases h with h | rfl
    · omega
    · rfl
  | f + 1, D, [], _, _ => by rw [listN_nil]; rfl
  | f + 1, D, x :: r, hx, _ => by
    obtain ⟨nd, hnd⟩ := hx x (by simp)
    have ih := listN_firsts hR (f + 1) D r (fun y hy => hx y (by simp [hy])) (.inl (Nat.succ_pos _))
    have hid := ((ndOf_mem hR.rise).1 hnd).2
    rw [listN_cons, listN_one hnd, List.map_append, List.map_cons, List.filter_append, List.map_append, ih]
    have e : ((listN N f (D + 1) nd.kids).map fun p => (entP p).1).filter (fun e => e.2.1 == D) = [] := by
      rw [List.filter_eq_nil_iff]
      intro e he
      obtain ⟨p, hp, rfl⟩ := List.mem_map.1 he
      have := listN_low f (D + 1) nd.kids p hp
      show ¬ (p.2 == D) = true
      simp; omega
    rw [List.filter_cons_of_pos (by show (D == D) = true; simp), e]
    show nd.id :: r = x :: r
    rw [hid]
/-- the list hangs together -/
theorem listN_wf (hR : RightM next N) : ∀ (f D : Nat) (ids : List Int), f + D = 65 → AtD N D ids → WFE ((listN N f D ids).map entP) ∧ StepT ((listN N f D ids).map fun p => (entP p).1)
  | 0, D, ids, _, _ => ⟨trivial, trivial⟩
  | f + 1, D, [], _, _ => by rw [listN_nil]; exact ⟨trivial, trivial⟩
  | f + 1, D, x :: r, hf, hA => by
    obtain ⟨nd, hnd⟩ := (hA x (by simp)).1
    have hD := (hA x (by simp)).2
    have hk := AtD.kids hR ⟨⟨nd, hnd⟩, hD⟩
    rw [kidsV_of hnd] at hk
    obtain ⟨hw1, hs1⟩ := listN_wf hR f (D + 1) nd.kids (by omega) hk
    obtain ⟨hw2, hs2⟩ := listN_wf hR (f + 1) D r hf fun y hy => hA y (by simp [hy])
    have hid := ((ndOf_mem hR.rise).1 hnd).2
    have hmem := ((ndOf_mem hR.rise).1 hnd).1
    have hlow : ∀ e ∈ (listN N f (D + 1) nd.kids).map fun p => (entP p).1, D < e.2.1 := fun e he => by
      obtain ⟨p, hp, rfl⟩ := List.mem_map.1 he
      have := listN_low f (D + 1) nd.kids p hp
      show D < p.2
      omega
    have hfk : 0 < f ∨ nd.kids = [] := by
      rcases Nat.eq_zero_or_pos f with h0 | h0
      · right
        have := hk.le hR (by omega)
        exact this
      · exact .inl h0
    have hff := listN_firsts hR f (D + 1) nd.kids (fun y hy => (hk y hy).1) hfk
    have hFT : FT D ((listN N f (D + 1) nd.kids).map fun p => (entP p).1) = ((listN N f (D + 1) nd.kids).map fun p => (entP p).1).filter fun e => e.2.1 == D + 1 := by
      unfold FT
      rw [segT_all hlow]
    have hmm : ((listN N f (D + 1) nd.kids).map entP).map (·.1) = (listN N f (D + 1) nd.kids).map fun p => (entP p).1 := by rw [List.map_map]; rfl
    have hw0 : WFE (((nd, D) :: listN N f (D + 1) nd.kids).map entP) := by
      refine ⟨?_, ?_, hw1⟩
      · show nd.kids = (FT D (((listN N f (D + 1) nd.kids).map entP).map (·.1))).map (·.1)
        rw [hmm, hFT, hff]
      · show ∀ x ∈ FT D (((listN N f (D + 1) nd.kids).map entP).map (·.1)), x.2.2 = nd.id
        rw [hmm, hFT]
        intro e he
        obtain ⟨he1, he2⟩ := List.mem_filter.1 he
        have hek : e.1 ∈ nd.kids := by rw [← hff]; exact List.mem_map_of_mem he
        obtain ⟨p, hp, rfl⟩ := List.mem_map.1 he1
        -- the node of that number hangs below this one
        obtain ⟨y, hy, hyp⟩ := (hR.kids hmem).1 _ hek
        have hpn : p.1 ∈ N := by
          have key : ∀ (f D : Nat) (ids : List Int), ∀ p ∈ listN N f D ids, p.1 ∈ N := by
            intro f
            induction f with
            | zero => intro D ids p h; simp [listN] at h
            | succ f ih =>
              intro D ids p h
              simp only [listN, List.mem_flatMap] at h
              obtain ⟨x, _, h⟩ := h
              cases hx : ndOf N x with
              | none => rw [hx] at h; cases h
              | some nd =>
                rw [hx] at h
                rcases List.mem_cons.1 h with rfl | h
                · exact ((ndOf_mem hR.rise).1 hx).1
                · exact ih (D + 1) nd.kids p h
          exact key _ _ _ p hp
        have h1 : p.1 = y := nd_uniq hR.rise hpn ((ndOf_mem hR.rise).1 hy).1 (by rw [((ndOf_mem hR.rise).1 hy).2]; rfl)
        show p.1.par = nd.id
        rw [h1]; exact hyp
    have hs0 : StepT (((nd, D) :: listN N f (D + 1) nd.kids).map fun p => (entP p).1) := by
      refine ⟨fun x hx => ?_, hs1⟩
      rw [List.head?_map] at hx
      obtain ⟨p, hp, rfl⟩ := Option.map_eq_some_iff.1 hx
      have := listN_head p hp
      show p.2 ≤ D + 1
      omega
    rw [listN_cons, listN_one hnd, List.map_append, List.map_append]
    refine ⟨hw0.app hw2 fun b hb a ha => ?_, hs0.app hs2 fun b hb a ha => ?_⟩
    · rw [List.head?_map] at hb
      obtain ⟨p, hp, rfl⟩ := Option.map_eq_some_iff.1 hb
      obtain ⟨q, hq, rfl⟩ := List.mem_map.1 ha
      have h1 := listN_head p hp
      show p.2 ≤ q.2
      rcases List.mem_cons.1 hq with rfl | hq
      · simp only; omega
      · have := listN_low f (D + 1) nd.kids q hq; omega
    · rw [List.head?_map] at hb
      obtain ⟨p, hp, rfl⟩ := Option.map_eq_some_iff.1 hb
      obtain ⟨q, hq, rfl⟩ := List.mem_map.1 (List.mem_of_getLast? ha)
      have h1 := listN_head p hp
      show p.2 ≤ q.2 + 1
      rcases List.mem_cons.1 hq with rfl | hq
      · simp only; omega
      · have := listN_low f (D + 1) nd.kids q hq; omega
/-- its numbers and levels are those of document order -/
theorem listN_pre (hR : RightM next N) : ∀ (f D d : Nat) (ids : List Int), f + D = 65 → AtD N D ids → (listN N f d ids).map (fun p => (p.1.id, p.2)) = pre N f d ids
  | 0, D, d, ids, _, _ => rfl
  | f + 1, D, d, [], _, _ => by rw [listN_nil, pre_nil]; rfl
  | f + 1, D, d, x :: r, hf, hA => by
    obtain ⟨nd, hnd⟩ := (hA x (by simp)).1
    have hD := (hA x (by simp)).2
    have hk := AtD.kids hR ⟨⟨nd, hnd⟩, hD⟩
    have hid := ((ndOf_mem hR.rise).1 hnd).2
    have ih1 := listN_pre hR f (D + 1) (d + 1) (kidsV N x) (by omega) hk
    have ih2 := listN_pre hR (f + 1) D d r hf fun y hy => hA y (by simp [hy])
    rw [listN_cons, listN_one hnd, List.map_append, List.map_cons, ih2]
    rw [kidsV_of hnd] at ih1
    rw [ih1, hid]
    show _ = pre N (f + 1) d ([x] ++ r)
    rw [pre_append]
    simp [pre, kidsV_of hnd]
end
end Go.Proofs.YtjjlofaejpnnnaaGreatDoor

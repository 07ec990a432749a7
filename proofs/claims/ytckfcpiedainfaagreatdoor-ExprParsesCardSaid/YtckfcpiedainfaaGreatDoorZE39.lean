/-
  WALKS over the document's reader: all levels.
  MEMORY: a list of nodes of the call's own that grows, and so do the nodes' kids: each node's kids in a block of their own.
-/
import Derived.Test.YtckfcpiedainfaaGreatDoorZE38
import Derived.Deep.OwnRows
namespace Go.Proofs.YtckfcpiedainfaaGreatDoor
open Go Go.RowKit Go.Sort
set_option linter.unusedVariables false
theorem dprim_any (w : World) (A : Option Addr) (c : Nat) (all : List Tok) (fin : Int) (hcx : DCx w A c all fin) (p : Nat)
    (HD : ∀ q, p + 1 ≤ q → q ≤ all.length → DC w A c all fin 21 #[.pointer (some ⟨w.heap.size, 0, none⟩), .int .i64 1] q (rdX (.lv 1) (all.drop q))) :
    DC w A c all fin 65 #[.pointer (some ⟨w.heap.size, 0, none⟩)] p (rdX (.lv 8) (all.drop p)) := by
  by_cases hp : p < all.length
  · exact dprim_tok w A c all fin hcx p all[p] (List.getElem?_eq_getElem hp) _ (prim_eq _) HD
  · have hl : all.drop p = [] := List.drop_eq_nil_of_le (by omega)
    have e : rdX (.lv 8) (all.drop p) = .error (all.drop p) := by rw [hl, prim_eq]; rfl
    rw [e]
    exact dprim_end w A c all fin hcx p hp
/-- all levels, wherever the reader stands well from p on -/
structure DAll (w : World) (A : Option Addr) (c : Nat) (all : List Tok) (fin : Int) (q : Nat) : Prop where
  l1 : DC w A c all fin 21 #[.pointer (some ⟨w.heap.size, 0, none⟩), .int .i64 1] q (rdX (.lv 1) (all.drop q))
  l2 : DC w A c all fin 21 #[.pointer (some ⟨w.heap.size, 0, none⟩), .int .i64 2] q (rdX (.lv 2) (all.drop q))
  l3 : DC w A c all fin 21 #[.pointer (some ⟨w.heap.size, 0, none⟩), .int .i64 3] q (rdX (.lv 3) (all.drop q))
  l4 : DC w A c all fin 21 #[.pointer (some ⟨w.heap.size, 0, none⟩), .int .i64 4] q (rdX (.lv 4) (all.drop q))
  l5 : DC w A c all fin 21 #[.pointer (some ⟨w.heap.size, 0, none⟩), .int .i64 5] q (rdX (.lv 5) (all.drop q))
  l6 : DC w A c all fin 21 #[.pointer (some ⟨w.heap.size, 0, none⟩), .int .i64 6] q (rdX (.lv 6) (all.drop q))
  l7 : DC w A c all fin 21 #[.pointer (some ⟨w.heap.size, 0, none⟩), .int .i64 7] q (rdX (.lv 7) (all.drop q))
theorem dlevels_any (w : World) (A : Option Addr) (c : Nat) (all : List Tok) (fin : Int) (hcx : DCx w A c all fin) : ∀ (m p : Nat), all.length + 1 - p ≤ m → ∀ q, p ≤ q → q ≤ all.length → DAll w A c all fin q := by
  intro m
  induction m with
  | zero => intro p hp q h1 h2; omega
  | succ m ih =>
    intro p hp q h1 h2
    rcases Nat.lt_or_ge p q with hlt | hge
    · exact ih (p + 1) (by omega) q hlt h2
    · obtain rfl : p = q := by omega
      have H : ∀ q, p + 1 ≤ q → q ≤ all.length → DAll w A c all fin q := fun q h1 h2 => ih (p + 1) (by omega) q h1 h2
      have h8 := dprim_any w A c all fin hcx p fun q h1 h2 => (H q h1 h2).l1
      have h7 := dlevel7_any w A c all fin hcx p h2 (dpost_any w A c all fin hcx p h2 h8)
      have at_ : ∀ {P : Nat → Prop}, P p → (∀ q, p + 1 ≤ q → q ≤ all.length → P q) → ∀ q, p ≤ q → q ≤ all.length → P q := fun {P} hp' hr q h1 h2 => by
        rcases Nat.lt_or_ge p q with h | h
        · exact hr q h h2
        · obtain rfl : p = q := by omega
          exact hp'
      have h6 := dlevel6_any w A c all fin hcx p h2 (at_ h7 fun q h1 h2 => (H q h1 h2).l7)
      have h5 := dlevel5_any w A c all fin hcx p h2 (at_ h6 fun q h1 h2 => (H q h1 h2).l6)
      have h4 := dlevel4_any w A c all fin hcx p h2 (at_ h5 fun q h1 h2 => (H q h1 h2).l5)
      have h3 := dlevel3_any w A c all fin hcx p h2 h4 fun hp => (H (p + 1) (Nat.le_refl _) hp).l3
      have h2' := dlevel2_any w A c all fin hcx p h2 (at_ h3 fun q h1 h2 => (H q h1 h2).l3)
      have h1' := dlevel1_any w A c all fin hcx p h2 (at_ h2' fun q h1 h2 => (H q h1 h2).l2)
      exact ⟨h1', h2', h3, h4, h5, h6, h7⟩
end Go.Proofs.YtckfcpiedainfaaGreatDoor
namespace Go.Proofs.YtckfcpiedainfaaGreatDoor
open Go Go.RowKit Go.Sort
set_option linter.unusedVariables false
/-- blocks, none of them twice -/
def ApE (bs : List (Option Nat)) : Prop := ∀ (i j : Nat) (a b : Option Nat), i ≠ j → bs[i]? = some a → bs[j]? = some b → b = none ∨ b ≠ a
theorem ApE.nil : ApE [] := fun i j a b _ h => by simp at h
theorem ApE.put {bs : List (Option Nat)} {i : Nat} {b b' : Option Nat} (h : ApE bs) (hi : bs[i]? = some b) (hb : b' = b ∨ ∀ x ∈ bs, x = none ∨ x ≠ b') : ApE (bs.set i b') := by
  have hlt : i < bs.length := (List.getElem?_eq_some_iff.1 hi).1
  intro p q x y hpq hp hq
  rw [List.getElem?_set] at hp hq
  by_cases hip : i = p
  · subst hip
    rw [if_neg hpq] at hq
    rw [if_pos rfl, if_pos hlt] at hp
    obtain rfl := Option.some.inj hp
    rcases hb with rfl | hb
    · exact h i q _ y hpq hi hq
    · exact hb y (List.mem_of_getElem? hq)
  · rw [if_neg hip] at hp
    by_cases hiq : i = q
    · subst hiq
      rw [if_pos rfl, if_pos hlt] at hq
      obtain rfl := Option.some.inj hq
      rcases hb with rfl | hb
      · exact h p i x _ hpq hp hi
      · rcases hb x (List.mem_of_getElem? hp) with rfl | hne
        · by_cases hn : b' = none
          · exact .inl hn
          · exact .inr hn
        · exact .inr (Ne.symm hne)
    · rw [if_neg hiq] at hq
      exact h p q x y hpq hp hq
theorem ApE.more {bs : List (Option Nat)} (h : ApE bs) : ApE (bs ++ [none]) := by
  have key : ∀ (k : Nat) (x : Option Nat), (bs ++ [none])[k]? = some x → bs[k]? = some x ∨ x = none := by
    intro k x hk
    rcases Nat.lt_or_ge k bs.length with hl | hl
    · rw [List.getElem?_append_left hl] at hk
      exact .inl hk
    · rw [List.getElem?_append_right hl] at hk
      right
      cases hkk : k - bs.length with
      | zero => rw [hkk] at hk; simpa using hk.symm
      | succ m => rw [hkk] at hk; simp at hk
  intro p q x y hpq hp hq
  rcases key q y hq with hq | rfl
  · rcases key p x hp with hp | rfl
    · exact h p q x y hpq hp hq
    · by_cases hn : y = none
      · exact .inl hn
      · exact .inr hn
  · exact .inl rfl
def kE (q : EN × Sl) : Option Nat := (Value.slice q.2.A q.2.n q.2.c).ownBlock
/-- nodes that grow -/
structure OE (B : Nat) (v : Value) (l : List (EN × Sl)) (X : World) : Prop where
  own : X.ownsRow B 52 4 v l.length (l.flatMap enC)
  leaf : ∀ p ∈ l, EnOwn X B p
  ap : ApE (l.map kE)
  hB : B ≤ X.heap.size
section
variable {B : Nat} {v : Value} {l : List (EN × Sl)} {w w' X X' : World}
theorem OE.start (X : World) : OE X.heap.size (.slice none 0 0) [] X := ⟨World.ownsRow_nil _ _ _ _, by simp, ApE.nil, Nat.le_refl _⟩
theorem OE.after (h : OE B v l X) (hb : Below X.heap.size X X') : OE B v l X' := ⟨own_after h.own hb, fun p hp => enOK.after (h.leaf p hp) hb, h.ap, Nat.le_trans h.hB hb.size⟩
/-- a node more, without kids -/
theorem OE.node (h : OE B v l X) {v' : Value} {e : EN} (ho : X'.ownsRow B 52 4 v' (l.length + 1) (l.flatMap enC ++ enC (e, ⟨none, 0, 0⟩))) (hg : X.grownBy X' v.ownBlock) (hk : e.kids = []) : OE B v' (l ++ [(e, ⟨none, 0, 0⟩)]) X' := by
  refine ⟨?_, fun p hp => ?_, ?_, Nat.le_trans h.hB hg.size⟩
  · rw [List.length_append, List.length_singleton, List.flatMap_append, List.flatMap_singleton]; exact ho
  · rcases List.mem_append.1 hp with hp | hp
    · exact enOK.kept (h.leaf p hp) h.own hg
    · obtain rfl : p = _ := by simpa using hp
      exact ⟨by simp [hk], by rw [hk]; exact World.ownsRow_nil _ _ _ _⟩
  · rw [List.map_append]; exact h.ap.more
theorem enC_set {l : List (EN × Sl)} {i : Nat} {p q : EN × Sl} {u : Value} (hp : l[i]? = some p) (hc : (enC p).set 3 u = enC q) : (l.flatMap enC).set (i * 4 + 3) u = (l.set i q).flatMap enC := by
  apply List.ext_getElem?
  intro k
  have hlen : (l.flatMap enC).length = l.length * 4 := flatN_len (f := enC) (s := 4) (fun _ => rfl) l
  have hlen2 : ((l.set i q).flatMap enC).length = l.length * 4 := by rw [flatN_len (f := enC) (s := 4) (fun _ => rfl), List.length_set]
  have hil : i < l.length := (List.getElem?_eq_some_iff.1 hp).1
  by_cases hk : k < l.length * 4
  · have hk2 : k = (k / 4) * 4 + k % 4 := by omega
    have hm : k % 4 < 4 := Nat.mod_lt _ (by decide)
    have hd : k / 4 < l.length := by omega
    have hx : l[k / 4]? = some l[k / 4] := List.getElem?_eq_getElem hd
    by_cases hi : k / 4 = i
    · have hx2 : (l.set i q)[k / 4]? = some q := by rw [hi, List.getElem?_set_self hil]
      rw [List.getElem?_set]
      conv => rhs; rw [hk2, flatN_get (f := enC) (s := 4) (fun _ => rfl) _ _ q hx2 _ hm, ← hc, List.getElem?_set]
      have hpp : l[k / 4]? = some p := by rw [hi]; exact hp
      by_cases h3 : k % 4 = 3
      · have : i * 4 + 3 = k := by omega
        rw [if_pos this, if_pos (by rw [hlen]; omega), if_pos h3.symm, if_pos (by show 3 < 4; decide)]
      · have : ¬ i * 4 + 3 = k := by omega
        rw [if_neg this, if_neg (Ne.symm h3)]
        conv => lhs; rw [hk2, flatN_get (f := enC) (s := 4) (fun _ => rfl) _ _ p hpp _ hm]
    · have hx2 : (l.set i q)[k / 4]? = some l[k / 4] := by rw [List.getElem?_set_ne (Ne.symm hi)]; exact hx
      rw [List.getElem?_set_ne (by omega)]
      conv => rhs; rw [hk2, flatN_get (f := enC) (s := 4) (fun _ => rfl) _ _ _ hx2 _ hm]
      conv => lhs; rw [hk2, flatN_get (f := enC) (s := 4) (fun _ => rfl) _ _ _ hx _ hm]
  · rw [List.getElem?_eq_none (by rw [List.length_set, hlen]; omega), List.getElem?_eq_none (by rw [hlen2]; omega)]
/-- a kid more below the node at place i -/
theorem OE.kid {g c i : Nat} {nd : EN} {K : Sl} {Ak : Option Addr} {ck : Nat} {y : Int} (h : OE B (.slice (some ⟨g, 0, none⟩) l.length c) l w) (hi : l[i]? = some (nd, K))
    (ho : w'.ownsRow B 3 1 (.slice Ak (K.n + 1) ck) (K.n + 1) (intCells (nd.kids ++ [y]))) (hg : w.grownBy w' (Value.slice K.A K.n K.c).ownBlock) (hnew : (Value.slice Ak (K.n + 1) ck).ownBlock = (Value.slice K.A K.n K.c).ownBlock ∨ (Value.slice Ak (K.n + 1) ck).ownBlock = some w.heap.size) :
    OE B (.slice (some ⟨g, 0, none⟩) l.length c) (l.set i (⟨nd.kind, nd.text, nd.int, nd.kids ++ [y]⟩, ⟨Ak, K.n + 1, ck⟩)) (w'.setCell ⟨g, i * 4 + 3, none⟩ (.slice Ak (K.n + 1) ck)) := by
  have hp := h.leaf _ (List.mem_of_getElem? hi)
  have hkr : w.ownsRow B 3 1 (.slice K.A K.n K.c) K.n (intCells nd.kids) := hp.k
  have how : w'.ownsRow B 52 4 (.slice (some ⟨g, 0, none⟩) l.length c) l.length (l.flatMap enC) := World.ownsRow.kept h.own hg (own_own_ne h.own hkr (by decide))
  have hst := (own_setAll [.slice Ak (K.n + 1) ck] (i * 4 + 3) w' _ how)
  have hgB : ∃ cs : Array Value, Blk w' g 52 cs := by
    rcases how.2 with ⟨e, _⟩ | ⟨g', cap, cur, e, _, hh, _⟩
    · cases e
    · injection e with e; injection e with e; injection e with e; subst e
      exact ⟨cur, hh⟩
  obtain ⟨cs, hgB⟩ := hgB
  refine ⟨?_, fun x hx => ?_, ?_, ?_⟩
  · have h1 := hst.1
    have e1 : setAll (l.flatMap enC) (i * 4 + 3) [Value.slice Ak (K.n + 1) ck] = (l.flatMap enC).set (i * 4 + 3) (.slice Ak (K.n + 1) ck) := rfl
    rw [e1, enC_set (q := (⟨nd.kind, nd.text, nd.int, nd.kids ++ [y]⟩, ⟨Ak, K.n + 1, ck⟩)) hi rfl] at h1
    rw [List.length_set]
    exact h1
  · have hcase : x = (⟨nd.kind, nd.text, nd.int, nd.kids ++ [y]⟩, ⟨Ak, K.n + 1, ck⟩) ∨ ∃ j, j ≠ i ∧ l[j]? = some x := by
      obtain ⟨j, hj⟩ := List.getElem?_of_mem hx
      rw [List.getElem?_set] at hj
      by_cases hij : i = j
      · rw [if_pos hij] at hj
        split at hj
        · exact .inl (Option.some.inj hj).symm
        · cases hj
      · rw [if_neg hij] at hj
        exact .inr ⟨j, fun e => hij e.symm, hj⟩
    rcases hcase with rfl | ⟨k, hk, hkx⟩
    · exact ⟨by have := hp.kn; simp only [List.length_append, List.length_singleton] at this ⊢; omega, own_other ho hgB (by decide) _ _⟩
    · have hx2 := h.leaf _ (List.mem_of_getElem? hkx)
      refine ⟨hx2.kn, own_other (World.ownsRow.kept hx2.k hg ?_) hgB (by decide) _ _⟩
      exact h.ap i k _ _ (Ne.symm hk) (by rw [List.getElem?_map, hi]; rfl) (by rw [List.getElem?_map, hkx]; rfl)
  · rw [List.map_set]
    refine h.ap.put (b := kE (nd, K)) (by rw [List.getElem?_map, hi]; rfl) ?_
    rcases hnew with hn | hn
    · exact .inl hn
    · right
      intro x hx
      show x = none ∨ x ≠ (Value.slice Ak (K.n + 1) ck).ownBlock
      rw [hn]
      obtain ⟨q, hq, rfl⟩ := List.mem_map.1 hx
      cases hb : kE q with
      | none => exact .inl rfl
      | some k =>
        right
        intro e
        have := (World.ownsRow.lt (h.leaf q hq).k k hb).2
        have := Option.some.inj e
        omega
  · have := ((Below.refl 0 w').setCell (p := ⟨g, i * 4 + 3, none⟩) (Nat.zero_le _) (.slice Ak (K.n + 1) ck)).size
    exact Nat.le_trans (Nat.le_trans h.hB hg.size) this
end
end Go.Proofs.YtckfcpiedainfaaGreatDoor

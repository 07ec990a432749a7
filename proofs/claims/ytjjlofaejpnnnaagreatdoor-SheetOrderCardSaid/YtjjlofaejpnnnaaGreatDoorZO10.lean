/-
  A LINE READ, in plain mathematics: what is read still hangs together; the number with which the line begins.
  WHAT IS READ IS RIGHT, in plain mathematics, and its document order is the order read.
  A NODE LET STAND, step by step, in memory: the reader's box, the nodes, the set, the new node's own box.
  WALKS over package names: addForm, Quote.
  WALKS over package names: Quote.
-/
import Derived.Test.YtjjlofaejpnnnaaGreatDoorZO9
namespace Go.Proofs.YtjjlofaejpnnnaaGreatDoor
open Go Go.RowKit
set_option linter.unusedVariables false
theorem lt_ltS {a b : ByteArray} (h : a.data.toList < b.data.toList) : ltS a b = true := by
  unfold ltS
  rw [Go.Proofs.bytesLess_eq, decide_eq_true_eq, toList_data, toList_data]
  exact h
theorem propsB_snoc {p : ByteArray × ByteArray} (h1 : wordB p.1 = true) (h2 : p.2.size ≤ 4096) : ∀ {l : List (ByteArray × ByteArray)} {q : Option ByteArray}, propsB q l = true → (l = [] → aboveB q p.1 = true) → (∀ x ∈ l.getLast?, x.1.data.toList < p.1.data.toList) → propsB q (l ++ [p]) = true
  | [], q, _, h3, _ => by
    simp only [List.nil_append, propsB, h1, h3 rfl, Bool.and_true, Bool.true_and, decide_eq_true_eq]
    exact h2
  | [x], q, h, _, h4 => by
    simp only [propsB, Bool.and_true, Bool.and_eq_true] at h
    simp only [List.cons_append, List.nil_append, propsB, Bool.and_true, Bool.and_eq_true, decide_eq_true_eq]
    exact ⟨⟨⟨h.1.1, by simpa using h.1.2⟩, h.2⟩, ⟨h1, h2⟩, lt_ltS (h4 x (by simp))⟩
  | x :: y :: l, q, h, _, h4 => by
    rw [propsB, Bool.and_eq_true] at h
    rw [List.cons_append, propsB, Bool.and_eq_true]
    exact ⟨h.1, propsB_snoc h1 h2 (l := y :: l) h.2 (fun e => by cases e) fun z hz => h4 z (by simpa using hz)⟩
theorem refsB_snoc {next : Int} {p : ByteArray × Int} (h1 : wordB p.1 = true) (h2 : 1 ≤ p.2 ∧ p.2 < next) : ∀ {l : List (ByteArray × Int)} {q : Option ByteArray}, refsB next q l = true → (l = [] → aboveB q p.1 = true) → (∀ x ∈ l.getLast?, x.1.data.toList < p.1.data.toList) → refsB next q (l ++ [p]) = true
  | [], q, _, h3, _ => by
    simp only [List.nil_append, refsB, h1, h3 rfl, Bool.and_true, Bool.true_and, Bool.and_eq_true, decide_eq_true_eq]
    exact h2
  | [x], q, h, _, h4 => by
    simp only [refsB, Bool.and_true, Bool.and_eq_true] at h
    simp only [List.cons_append, List.nil_append, refsB, Bool.and_true, Bool.and_eq_true, decide_eq_true_eq]
    exact ⟨⟨⟨⟨h.1.1.1, by simpa using h.1.1.2⟩, by simpa using h.1.2⟩, h.2⟩, ⟨⟨h1, h2.1⟩, h2.2⟩, lt_ltS (h4 x (by simp))⟩
  | x :: y :: l, q, h, _, h4 => by
    rw [refsB, Bool.and_eq_true] at h
    rw [List.cons_append, refsB, Bool.and_eq_true]
    exact ⟨h.1, refsB_snoc h1 h2 (l := y :: l) h.2 (fun e => by cases e) fun z hz => h4 z (by simpa using hz)⟩
theorem bytesOf_size (l : List UInt8) : (bytesOf l).size = l.length := by
  show l.toArray.size = _
  rw [List.size_toArray]
theorem last_mem {st : RS} {nd : Nd} (hl : st.nds.getLast? = some nd) : nd ∈ st.nds := List.mem_of_getElem? (last_get hl).2
theorem has_tree {st st' : RS} {nd : Nd} {name v : List UInt8} (ht : RsTree st) (hl : st.nds.getLast? = some nd) (hw : wordL name = true) (h : hasV st nd name v = some st') : RsTree st' ∧ idsOf st' = idsOf st := by
  unfold hasV at h
  simp only at h
  split at h
  · rename_i hc
    obtain rfl := Option.some.inj h
    refine ⟨ht.last hl rfl rfl rfl rfl ?_, lastV_ids hl rfl⟩
    have hs := ht.sp nd (last_mem hl)
    exact ⟨hs.con, propsB_snoc (by unfold wordB; exact hw) (by rw [bytesOf_size]; exact hc.2.2.1) hs.props (fun _ => rfl) hc.2.2.2.2, hs.refs⟩
  · cases h
theorem refers_tree {st st' : RS} {nd : Nd} {name v : List UInt8} (ht : RsTree st) (hl : st.nds.getLast? = some nd) (hw : wordL name = true) (h : refersV st nd name v = some st') : RsTree st' ∧ idsOf st' = idsOf st := by
  unfold refersV at h
  cases hn : numberV v st.next with
  | none => rw [hn] at h; cases h
  | some y =>
    rw [hn] at h
    simp only at h
    split at h
    · rename_i hc
      obtain rfl := Option.some.inj h
      refine ⟨ht.last hl rfl rfl rfl rfl ?_, lastV_ids hl rfl⟩
      have hs := ht.sp nd (last_mem hl)
      exact ⟨hs.con, hs.props, refsB_snoc (by unfold wordB; exact hw) (numberV_some hn).2 hs.refs (fun _ => rfl) hc⟩
    · cases h
theorem stands_tree {st st' : RS} {n : Nd} {d : Nat} (hok : RsOk st) (ht : RsTree st) (h1 : n.par = 0) (h2 : n.kids = []) (h3 : d = 0 ∧ n.role.toList = [] ∨ d ≠ 0 ∧ wordB n.role = true) (hs : SpN st.next n) (h : standsV st n d = some st') : RsTree st' ∧ idsOf st' = idsOf st ++ [n.id] := by
  have hst := standsV_stood h
  refine ⟨?_, hst.ids⟩
  rw [standsV_is hok.dl hok.dk] at h
  split at h
  · cases h
  · rename_i hno
    obtain rfl := Option.some.inj h
    rcases h3 with ⟨rfl, h3⟩ | ⟨h0, h3⟩
    · have e : stoodV st n 0 = ⟨st.next, st.nds ++ [n], st.deep ++ [1]⟩ := by unfold stoodV; rw [if_pos rfl]
      rw [e]
      refine ht.root hok h1 h2 h3 hs ?_
      unfold noStand at hno
      have : ¬ n.id ≤ rootV st := fun hx => hno (.inr (.inr (.inr (.inr ⟨rfl, hx⟩))))
      omega
    · obtain ⟨i, nd, hsa⟩ := stood_at hok.dl hok.dk n (Nat.pos_of_ne_zero h0) hst.dle
      rw [hsa.is]
      exact ht.kid hok h2 h3 hs (Nat.pos_of_ne_zero h0) hst.dle hsa.up hsa.at_
section
variable {st st' : RS} {s : ByteArray} {d : Nat}
theorem stepW_out {p : Nat} {r : ByteArray × Nat} (h : stepW s p = some r) : wordB r.1 = true := by
  unfold stepW at h
  split at h
  · split at h
    · rename_i hc
      obtain rfl := Option.some.inj h
      exact hc.2
    · cases h
  · cases h
theorem nodeR_inv {id : Int} {p : Nat} (h : nodeR st s d id 0 ByteArray.empty ByteArray.empty p = some st') : ∃ role con, (d = 0 ∧ role.toList = [] ∨ d ≠ 0 ∧ wordB role = true) ∧ wordB con = true ∧ standsV st ⟨id, con, 0, role, [], [], []⟩ d = some st' := by
  rw [nodeR0] at h
  split at h
  · rename_i hd
    obtain ⟨q, hq, h⟩ := Option.bind_eq_some_iff.1 h
    split at h
    · exact ⟨_, _, .inl ⟨hd, by rw [toList_data]; rfl⟩, stepW_out hq, h⟩
    · cases h
  · rename_i hd
    obtain ⟨r, hr, h⟩ := Option.bind_eq_some_iff.1 h
    obtain ⟨q, hq, h⟩ := Option.bind_eq_some_iff.1 h
    split at h
    · exact ⟨_, _, .inr ⟨hd, stepW_out hr⟩, stepW_out hq, h⟩
    · cases h
/-- the number with which a line begins; 0: it begins with none -/
def toldN (l : List UInt8) : Int := (intT ((l.drop (blanksV l)).takeWhile isDg)).getD 0
theorem intT_nil : intT [] = none := by
  cases h : intT [] with
  | none => rfl
  | some v =>
    have := (intT_out h).1
    unfold Lib.itoa at this
    split at this
    · cases this
    · exact absurd this (dec_ne _)
theorem told_word {m : List UInt8} {v : Int} (h : intT (wordP m) = some v) (hv : 1 ≤ v) : m.takeWhile isDg = wordP m := by
  obtain ⟨w, r, hm, hw, _, _, hr⟩ := wordP_parts m
  rw [hw] at h ⊢
  have hi := (intT_out h).1
  have hall : w.all isDg = true := by
    rw [← hi]
    obtain ⟨u, rfl⟩ : ∃ u : Nat, v = (u : Int) := ⟨v.toNat, by omega⟩
    rw [itoa_of_nat]
    exact (dec_val u).2
  rw [hm, List.takeWhile_append_of_pos (List.all_eq_true.1 hall)]
  have : r.takeWhile isDg = [] := by
    rcases hr with rfl | ⟨t, rfl | rfl⟩
    · rfl
    · rw [List.takeWhile_cons, if_neg (by decide)]
    · rw [List.takeWhile_cons, if_neg (by decide)]
  rw [this, List.append_nil]
/-- a line that is not the first one: it tells a node, or none -/
theorem line_told (hok : RsOk st) (ht : RsTree st) (h0 : st.next ≠ 0) (h : takesV st s.data.toList = some st') :
    RsTree st' ∧ ((idsOf st' = idsOf st ++ [toldN s.data.toList] ∧ 1 ≤ toldN s.data.toList) ∨ (idsOf st' = idsOf st ∧ toldN s.data.toList = 0)) := by
  obtain ⟨d, hd⟩ : ∃ d, blanksV s.data.toList = d := ⟨_, rfl⟩
  have hle := blanksV_le s.data.toList
  rw [hd, toList_eq] at hle
  by_cases hlt : d < s.size
  · rw [takesV_sub h0 hd hlt] at h
    have e := drop_get' s d hlt
    split at h
    · rename_i hc
      have htz : toldN s.data.toList = 0 := by
        unfold toldN
        rw [hd, e, List.takeWhile_cons, if_neg (by
          have : s[d] = 46 ∨ s[d] = 62 := hc.imp (fun h => UInt8.toNat_inj.1 (by rw [h]; rfl)) (fun h => UInt8.toNat_inj.1 (by rw [h]; rfl))
          rcases this with h1 | h1 <;> rw [h1] <;> decide), intT_nil]
        rfl
      cases hl : st.nds.getLast? with
      | none => rw [hl] at h; cases h
      | some nd =>
        rw [hl] at h
        cases hx : s.data.toList.drop (d + 1 + (wordAt s (d + 1)).size) with
        | nil => rw [hx] at h; cases h
        | cons x v =>
          rw [hx] at h
          simp only at h
          split at h
          · rename_i hy
            split at h
            · obtain ⟨h1, h2⟩ := refers_tree ht hl hy.2.2 h
              exact ⟨h1, .inr ⟨h2, htz⟩⟩
            · obtain ⟨h1, h2⟩ := has_tree ht hl hy.2.2 h
              exact ⟨h1, .inr ⟨h2, htz⟩⟩
          · cases h
    · obtain ⟨id, hid, h⟩ := Option.bind_eq_some_iff.1 h
      rw [nodeV_is] at h
      obtain ⟨role, con, hr, hc, hs⟩ := nodeR_inv h
      obtain ⟨h1, h2⟩ := stands_tree hok ht rfl rfl hr ⟨hc, rfl, rfl⟩ hs
      rw [wordAt_is] at hid
      obtain ⟨hi, hi1, _⟩ := numberV_some hid
      have htl : toldN s.data.toList = id := by
        unfold toldN
        rw [hd, told_word hi hi1, hi]; rfl
      refine ⟨h1, .inl ⟨by rw [htl]; exact h2, by rw [htl]; exact hi1⟩⟩
  · exfalso
    have hb : takesV st s.data.toList = none := by
      unfold takesV
      rw [if_neg h0]
      simp only
      have : s.data.toList.drop (s.data.toList.takeWhile (· == 32)).length = [] := List.drop_eq_nil_of_le (by rw [toList_eq]; unfold blanksV at hd; omega)
      rw [this]
    rw [hb] at h; cases h
/-- the first line -/
theorem line_first (h0 : st.next = 0) (h : takesV st s.data.toList = some st') : st'.nds = [] ∧ RsTree st' := by
  unfold takesV at h
  rw [if_pos h0] at h
  split at h
  · obtain ⟨n, _, rfl⟩ := Option.map_eq_some_iff.1 h
    exact ⟨rfl, rsTree_nil n⟩
  · cases h
end
end Go.Proofs.YtjjlofaejpnnnaaGreatDoor
namespace Go.Proofs.YtjjlofaejpnnnaaGreatDoor
open Go Go.RowKit
set_option linter.unusedVariables false
theorem WFE.at_ {E : List EE} (h : WFE E) {i : Nat} {e : EE} (he : E[i]? = some e) : e.2.1 = (FT e.1.2.1 ((E.drop (i + 1)).map (·.1))).map (·.1) ∧ ∀ x ∈ FT e.1.2.1 ((E.drop (i + 1)).map (·.1)), x.2.2 = e.1.1 := by
  obtain ⟨hi, he⟩ := List.getElem?_eq_some_iff.1 he
  have e0 : E = E.take i ++ e :: E.drop (i + 1) := by
    conv => lhs; rw [← List.take_append_drop i E]
    rw [List.drop_eq_getElem_cons hi, he]
  rw [e0] at h
  have := WFE.right h
  exact ⟨this.1, this.2.1⟩
section
variable {st : RS}
theorem ent_ids (hl : st.deep.length = st.nds.length) : (entE st).map (·.1.1) = idsOf st := by
  have key : ∀ (l : List Nd) (m : List Nat), m.length = l.length → (List.zipWith entF l m).map (·.1.1) = l.map (·.id) := by
    intro l
    induction l with
    | nil => intro m _; rfl
    | cons x l ih =>
      intro m hm
      cases m with
      | nil => simp at hm
      | cons y m =>
        rw [List.zipWith_cons_cons, List.map_cons, List.map_cons, ih m (by simpa using hm)]
        rfl
  exact key _ _ hl
theorem ent_of (hl : st.deep.length = st.nds.length) {nd : Nd} (h : nd ∈ st.nds) : ∃ i d : Nat, st.nds[i]? = some nd ∧ st.deep[i]? = some d ∧ (entE st)[i]? = some (entF nd d) := by
  obtain ⟨i, hi⟩ := List.getElem?_of_mem h
  have hlt := (List.getElem?_eq_some_iff.1 hi).1
  obtain ⟨d, hd⟩ : ∃ d, st.deep[i]? = some d := ⟨_, List.getElem?_eq_getElem (by omega)⟩
  exact ⟨i, d, hi, hd, entE_at hi hd⟩
theorem ent_mem {e : EE} (h : e ∈ entE st) : ∃ nd d, nd ∈ st.nds ∧ d ∈ st.deep ∧ e = entF nd d := by
  obtain ⟨i, hi⟩ := List.getElem?_of_mem h
  obtain ⟨nd, d, h1, h2, rfl⟩ := entE_get hi
  exact ⟨nd, d, List.mem_of_getElem? h1, List.mem_of_getElem? h2, rfl⟩
theorem find_ent : ∀ {E : List EE}, (E.map (·.1.1)).Nodup → ∀ {e : EE}, e ∈ E → E.find? (fun x => x.1.1 == e.1.1) = some e
  | [], _, e, h => nomatch h
  | x :: E, hn, e, h => by
    rw [List.map_cons, List.nodup_cons] at hn
    rw [List.find?_cons]
    by_cases hx : x.1.1 = e.1.1
    · rw [show (x.1.1 == e.1.1) = true from by simpa using hx]
      rcases List.mem_cons.1 h with rfl | h
      · rfl
      · exact absurd (by rw [hx]; exact List.mem_map_of_mem (f := (·.1.1)) h) hn.1
    · rw [show (x.1.1 == e.1.1) = false from by simpa using hx]
      rcases List.mem_cons.1 h with rfl | h
      · exact absurd rfl hx
      · exact find_ent hn.2 h
/-- how deep a number's node stands -/
def lvlE (E : List EE) (k : Int) : Nat := if k = 0 then 0 else match E.find? (fun x => x.1.1 == k) with
  | some e => e.1.2.1
  | none => 0
theorem mem_sort {l : List Nd} {nd : Nd} : nd ∈ sortV l ↔ nd ∈ l := (sortV_perm l).mem_iff
theorem tm_read (hok : RsOk st) (ht : RsTree st) : TM st.next (sortV st.nds) := by
  have hids := ent_ids hok.dl
  have hnod : ((entE st).map (·.1.1)).Nodup := by rw [hids]; exact hok.ds
  have hid : ∀ nd ∈ st.nds, 1 ≤ nd.id ∧ nd.id < st.next := fun nd h => hok.id nd.id (List.mem_map_of_mem h)
  have hlv : ∀ e ∈ entE st, lvlE (entE st) e.1.1 = e.1.2.1 := fun e he => by
    obtain ⟨nd, d, h1, _, rfl⟩ := ent_mem he
    unfold lvlE
    rw [if_neg (by have := (hid nd h1).1; show ¬ nd.id = 0; omega), find_ent hnod he]
  refine ⟨hok.n1, hok.n2, by rw [sortV_len]; exact hok.ln, ?_, fun nd h => hid nd (mem_sort.1 h), fun nd h => ht.sp nd (mem_sort.1 h), fun nd h => ?_, fun nd h k hk => ?_, fun nd h => ?_, lvlE (entE st), by unfold lvlE; rw [if_pos rfl], fun nd h => ?_⟩
  · rw [List.pairwise_map]
    exact sortV_sorted hok.ds
  · obtain ⟨i, d, _, _, he⟩ := ent_of hok.dl (mem_sort.1 h)
    have hk := (ht.wf.at_ he).1
    have hk2 : nd.kids = (FT d (((entE st).drop (i + 1)).map (·.1))).map (·.1) := hk
    rw [hk2]
    have hs : ((FT d (((entE st).drop (i + 1)).map (·.1))).map (·.1)).Sublist ((entE st).map (·.1.1)) := by
      have h1 := (FT_sub (k := d) (L := ((entE st).drop (i + 1)).map (·.1))).map (·.1)
      rw [List.map_map] at h1
      exact h1.trans ((List.drop_sublist (i + 1) (entE st)).map _)
    exact hs.nodup hnod
  · obtain ⟨i, d, _, _, he⟩ := ent_of hok.dl (mem_sort.1 h)
    obtain ⟨hk1, hk2⟩ := ht.wf.at_ he
    have hk1' : nd.kids = (FT d (((entE st).drop (i + 1)).map (·.1))).map (·.1) := hk1
    rw [hk1'] at hk
    obtain ⟨x, hx, rfl⟩ := List.mem_map.1 hk
    have hp := hk2 x hx
    obtain ⟨q, hq, rfl⟩ := List.mem_map.1 (FT_sub.mem hx)
    obtain ⟨nd2, d2, h1, _, rfl⟩ := ent_mem (List.mem_of_mem_drop hq)
    exact ⟨nd2, mem_sort.2 h1, rfl, hp⟩
  · obtain ⟨i, d, _, _, he⟩ := ent_of hok.dl (mem_sort.1 h)
    rcases ht.par _ (List.mem_of_getElem? he) with ⟨_, h2, h3⟩ | ⟨_, h2, q, hq, h3, h4, _⟩
    · exact .inl ⟨h2, h3⟩
    · obtain ⟨p, dp, hp, _, rfl⟩ := ent_mem hq
      have h3' : p.id = nd.par := h3
      exact .inr ⟨by have := (hid p hp).1; omega, h2, p, mem_sort.2 hp, h3', h4⟩
  · obtain ⟨i, d, _, hd, he⟩ := ent_of hok.dl (mem_sort.1 h)
    have hm := List.mem_of_getElem? he
    have h1 : lvlE (entE st) nd.id = d := hlv _ hm
    refine ⟨?_, by rw [h1]; exact (hok.dk.pos d (List.mem_of_getElem? hd)).2⟩
    rw [h1]
    rcases ht.par _ hm with ⟨h2, h3, _⟩ | ⟨_, _, q, hq, h3, _, h5⟩
    · have h2' : d = 1 := h2
      have h3' : nd.par = 0 := h3
      rw [h3', h2']
      unfold lvlE
      rw [if_pos rfl]
    · have h3' : q.1.1 = nd.par := h3
      have h5' : q.1.2.1 + 1 = d := h5
      rw [← h3', hlv q hq]
      omega
end
theorem split_seg (k : Nat) : ∀ L : List TE, ∃ j, segT (k + 1) L = L.take j ∧ ∀ x ∈ (L.drop j).head?, x.2.1 ≤ k + 1
  | [] => ⟨0, rfl, fun x hx => nomatch hx⟩
  | e :: L => by
    by_cases he : k + 1 < e.2.1
    · obtain ⟨j, h1, h2⟩ := split_seg k L
      exact ⟨j + 1, by rw [segT_cons_in he, h1]; rfl, h2⟩
    · exact ⟨0, by rw [segT_cons_out he]; rfl, fun x hx => by
        obtain rfl : e = x := by simpa using hx
        omega⟩
/-- what stands below a level, in document order -/
theorem flatF {next : Int} {N : List Nd} (hR : RightM next N) : ∀ (m : Nat) (L : List EE) (k : Nat), L.length ≤ m → WFE L → StepT (L.map (·.1)) → (∀ x ∈ (L.map (·.1)).head?, x.2.1 ≤ k + 1) → (∀ e ∈ L, ∃ nd, ndOf N e.1.1 = some nd ∧ nd.kids = e.2.1) →
    ((FT k (L.map (·.1))).map (·.1)).flatMap (preI N) = (segT k (L.map (·.1))).map (·.1)
  | _, [], k, _, _, _, _, _ => rfl
  | 0, e :: t, k, hm, _, _, _, _ => by simp at hm
  | m + 1, e :: t, k, hm, hw, hs, hh, hN => by
    have hlm : t.length ≤ m := by simpa using hm
    rw [List.map_cons] at hs hh ⊢
    by_cases hk : k < e.1.2.1
    · have hek : e.1.2.1 = k + 1 := by have := hh e.1 (by simp); omega
      obtain ⟨nd, hnd, hkd⟩ := hN e (by simp)
      have hw1 := hw.1
      rw [hek] at hw1
      have ih1 := flatF hR m t (k + 1) hlm hw.2.2 hs.2 (fun x hx => by have := hs.1 x hx; omega) (fun x hx => hN x (by simp [hx]))
      have hp : preI N e.1.1 = e.1.1 :: (segT (k + 1) (t.map (·.1))).map (·.1) := by
        rw [preI_eq hR hnd, hkd, hw1, ih1]
      obtain ⟨j, hj1, hj2⟩ := split_seg k (t.map (·.1))
      have ht : t.map (·.1) = segT (k + 1) (t.map (·.1)) ++ (t.drop j).map (·.1) := by
        rw [hj1, List.map_drop, List.take_append_drop]
      have hlow : ∀ x ∈ segT (k + 1) (t.map (·.1)), k < x.2.1 := fun x hx => by have := segT_lt x hx; omega
      have hseg : segT k (t.map (·.1)) = segT (k + 1) (t.map (·.1)) ++ segT k ((t.drop j).map (·.1)) := by
        conv => lhs; rw [ht]
        exact segT_app_in hlow
      have hft : FT k (t.map (·.1)) = FT k ((t.drop j).map (·.1)) := by
        unfold FT
        rw [hseg, List.filter_append, List.filter_eq_nil_iff.2 (fun x hx => by have := segT_lt x hx; simp; omega), List.nil_append]
      have hw2 : WFE (t.drop j) := by
        have := hw.2.2
        rw [← List.take_append_drop j t] at this
        exact WFE.right this
      have hs2 : StepT ((t.drop j).map (·.1)) := by
        have := hs.2
        rw [← List.take_append_drop j (t.map (·.1)), ← List.map_drop] at this
        exact StepT.right this
      have ih2 := flatF hR m (t.drop j) k (by rw [List.length_drop]; omega) hw2 hs2 (by rw [List.map_drop]; exact hj2) (fun x hx => hN x (by simp [List.mem_of_mem_drop hx]))
      have hF : FT k (e.1 :: t.map (·.1)) = e.1 :: FT k (t.map (·.1)) := by
        unfold FT
        rw [segT_cons_in hk, List.filter_cons_of_pos (by simpa using hek)]
      rw [hF, segT_cons_in hk, List.map_cons, List.flatMap_cons, hp, hft, ih2, hseg, List.map_cons, List.map_append, List.cons_append]
    · have hF : FT k (e.1 :: t.map (·.1)) = [] := by
        unfold FT
        rw [segT_cons_out hk]; rfl
      rw [hF, segT_cons_out hk]; rfl
theorem filt_zip : ∀ (l : List Nd) (m : List Nat), m.length = l.length → (∀ e ∈ List.zipWith entF l m, e.1.2.2 = 0 ↔ e.1.2.1 = 1) → (l.filter (fun nd => nd.par == 0)).map (·.id) = ((List.zipWith entF l m).filter fun e => e.1.2.1 == 1).map (·.1.1)
  | [], m, _, _ => by simp
  | x :: l, [], h, _ => by simp at h
  | x :: l, y :: m, h, hp => by
    have ih := filt_zip l m (by simpa using h) fun e he => hp e (by simp [he])
    have hx := hp (entF x y) (by simp)
    rw [List.zipWith_cons_cons]
    by_cases h1 : y = 1
    · have h2 : x.par = 0 := hx.2 h1
      rw [List.filter_cons_of_pos (by simpa using h2), List.filter_cons_of_pos (by simpa [entF] using h1), List.map_cons, List.map_cons, ih]; rfl
    · have h2 : ¬ x.par = 0 := fun e => h1 (hx.1 e)
      rw [List.filter_cons_of_neg (by simpa using h2), List.filter_cons_of_neg (by simpa [entF] using h1), ih]
theorem order_read {st : RS} (hok : RsOk st) (ht : RsTree st) : rightB st.next (sortV st.nds) = true ∧ orderV (sortV st.nds) = idsOf st := by
  have hT := tm_read hok ht
  have hB := hT.right
  refine ⟨hB, ?_⟩
  have hR := rightM hB
  have hids := ent_ids hok.dl
  have hid : ∀ nd ∈ st.nds, 1 ≤ nd.id := fun nd h => (hok.id nd.id (List.mem_map_of_mem h)).1
  have hpos : ∀ x ∈ (entE st).map (·.1), 0 < x.2.1 := fun x hx => by
    obtain ⟨e, he, rfl⟩ := List.mem_map.1 hx
    obtain ⟨nd, d, _, hd, rfl⟩ := ent_mem he
    exact (hok.dk.pos d hd).1
  have hpr : ∀ e ∈ entE st, e.1.2.2 = 0 ↔ e.1.2.1 = 1 := fun e he => by
    rcases ht.par e he with ⟨h1, h2, _⟩ | ⟨h1, _, q, hq, h3, _⟩
    · exact ⟨fun _ => h1, fun _ => h2⟩
    · obtain ⟨p, dp, hp, _, rfl⟩ := ent_mem hq
      have := hid p hp
      have h3' : p.id = e.1.2.2 := h3
      exact ⟨fun h => by omega, fun h => by omega⟩
  have hfz := filt_zip st.nds st.deep hok.dl hpr
  have hroots : (sortV st.nds).filter (fun nd => nd.par == 0) = st.nds.filter (fun nd => nd.par == 0) := by
    refine sorted_one ((sortV_perm st.nds).filter _) ((sortV_sorted hok.ds).sublist List.filter_sublist) ?_
    have h1 : ((st.nds.filter (fun nd => nd.par == 0)).map (·.id)).Pairwise (· < ·) := by
      rw [hfz, List.pairwise_map]
      exact ht.roots
    rw [List.pairwise_map] at h1
    exact h1
  have hF : (FT 0 ((entE st).map (·.1))).map (·.1) = rootsV (sortV st.nds) := by
    unfold FT rootsV
    rw [segT_all hpos, hroots, hfz, List.filter_map, List.map_map]
    rfl
  have key := flatF hR (entE st).length (entE st) 0 (Nat.le_refl _) ht.wf ht.step (fun x hx => by have := ht.head x hx; omega) (fun e he => by
    obtain ⟨nd, d, h1, _, rfl⟩ := ent_mem he
    exact ⟨nd, (ndOf_mem hR.rise).2 ⟨mem_sort.2 h1, rfl⟩, rfl⟩)
  unfold orderV
  rw [← hF, key, segT_all hpos, List.map_map]
  exact hids
end Go.Proofs.YtjjlofaejpnnnaaGreatDoor
namespace Go.Proofs.YtjjlofaejpnnnaaGreatDoor
open Go Go.RowKit Go.Sort
set_option linter.unusedVariables false
theorem drewS_below (w : World) : Below w.heap.size w w.drew := ⟨rfl, rfl, rfl, Nat.le_refl _, fun _ _ => rfl⟩
theorem below_own {B0 : Nat} {w W W' : World} {r : Option Nat} (h : Below B0 w W) (hs : B0 ≤ W.heap.size) (hg : W.grownBy W' r) (hr : ∀ g, r = some g → B0 ≤ g) : Below B0 w W' :=
  ⟨hg.os.trans h.os, hg.tape.trans h.tape, hg.output.trans h.output, Nat.le_trans h.size hg.size, fun g hb => (hg.block g (by omega) (fun he => by have := hr g he.symm; omega)).trans (h.block g hb)⟩
def ndBox (nd : Nd) : Array Value := #[.int .i64 nd.id, .string nd.con, .int .i64 nd.par, .string nd.role, .slice none 0 0, .slice none 0 0, .slice none 0 0]
def rdBox (next : Int) (v : Value) (gm : Nat) (root : Int) (vw : Value) : Array Value := #[.int .i64 next, v, .map (some gm), .int .i64 root, vw]
structure Mid (B0 B gr gm gn k : Nat) (next root : Int) (v vw : Value) (l : List (Nd × Leaf)) (ws ids : List Int) (nn : Nd) (w W : World) : Prop where
  bx : Blk W gr 45 (rdBox next v gm root vw)
  np : NP B v vw l ws W
  set : SeenIs W gm k ids
  nb : Blk W gn 55 (ndBox nn)
  bel : Below B0 w W
  l0 : B0 ≤ gr
  l1 : B0 ≤ gm
  l2 : gr < B
  l3 : gm < B
  lgn : B0 ≤ gn
  gv : v.ownBlock ≠ some gn
theorem NP.otherN {B g i : Nat} {v vw : Value} {l : List (Nd × Leaf)} {ws : List Int} {w : World} {cs : Array Value} {u : Value} (h : NP B v vw l ws w) (hg : Blk w g 55 cs) (hv : v.ownBlock ≠ some g) : NP B v vw l ws (w.setCell ⟨g, i, none⟩ u) := by
  refine ⟨?_, fun p hp => (h.leaf p hp).other hg (by decide) (by decide) (by decide) i u, own_other h.way hg (by decide) i u, h.ap, h.ak, h.ar, ?_⟩
  · exact World.ownsRow.kept h.own (row := some g) ⟨rfl, rfl, rfl, by simp, fun k _ hk => heap_setCell_other w ⟨g, i, none⟩ k u (fun e => hk (by simp [e]))⟩ (.inr hv)
  · have := ((Below.refl 0 w).setCell (p := ⟨g, i, none⟩) (Nat.zero_le _) u).size
    exact Nat.le_trans h.hB this
section
variable {B0 B gr gm gn k : Nat} {next root : Int} {v vw : Value} {l : List (Nd × Leaf)} {ws ids : List Int} {nn : Nd} {w W W' : World}
theorem Mid.hs (h : Mid B0 B gr gm gn k next root v vw l ws ids nn w W) : B0 ≤ W.heap.size := Nat.le_trans h.l0 (Nat.le_of_lt h.bx.lt)
theorem Mid.after (h : Mid B0 B gr gm gn k next root v vw l ws ids nn w W) (hb : Below W.heap.size W W') : Mid B0 B gr gm gn k next root v vw l ws ids nn w W' :=
  ⟨h.bx.after hb, h.np.after hb, h.set.after hb, h.nb.after hb, h.bel.trans (hb.mono h.hs), h.l0, h.l1, h.l2, h.l3, h.lgn, h.gv⟩
theorem Mid.drew (h : Mid B0 B gr gm gn k next root v vw l ws ids nn w W) : Mid B0 B gr gm gn k next root v vw l ws ids nn w W.drew := h.after (drewS_below _)
theorem Mid.alloc (h : Mid B0 B gr gm gn k next root v vw l ws ids nn w W) (o : Obj) : Mid B0 B gr gm gn k next root v vw l ws ids nn w (W.alloc o) := h.after ((Below.refl _ _).alloc (Nat.le_refl _) o)
theorem Mid.ne (h : Mid B0 B gr gm gn k next root v vw l ws ids nn w W) : gn ≠ gr := by
  rintro rfl
  exact absurd rfl (Blk.ne_ h.nb h.bx (by decide))
/-- the last root is another one -/
theorem Mid.rootS (h : Mid B0 B gr gm gn k next root v vw l ws ids nn w W) (r : Int) : Mid B0 B gr gm gn k next r v vw l ws ids nn w (W.setCell ⟨gr, 3, none⟩ (.int .i64 r)) :=
  ⟨by have := h.bx.set_ 3 (.int .i64 r); simpa [rdBox] using this, h.np.other h.bx (by decide) (by decide) (by decide) (by decide) _ _, h.set.set (p := ⟨gr, 3, none⟩) (h.set.blk_ne h.bx) _, h.nb.far (p := ⟨gr, 3, none⟩) h.ne _, h.bel.setCell (p := ⟨gr, 3, none⟩) h.l0 _, h.l0, h.l1, h.l2, h.l3, h.lgn, h.gv⟩
/-- the parent is known -/
theorem Mid.par (h : Mid B0 B gr gm gn k next root v vw l ws ids nn w W) (y : Int) : Mid B0 B gr gm gn k next root v vw l ws ids { nn with par := y } w (W.setCell ⟨gn, 2, none⟩ (.int .i64 y)) :=
  ⟨h.bx.far (p := ⟨gn, 2, none⟩) (Ne.symm h.ne) _, h.np.otherN h.nb h.gv, h.set.set (p := ⟨gn, 2, none⟩) (h.set.blk_ne h.nb) _, by have := h.nb.set_ 2 (.int .i64 y); simpa [ndBox] using this, h.bel.setCell (p := ⟨gn, 2, none⟩) h.lgn _, h.l0, h.l1, h.l2, h.l3, h.lgn, h.gv⟩
/-- a kid more -/
theorem Mid.kid {n c g i : Nat} {nd : Nd} {P K R : Sl} {Ak : Option Addr} {ck : Nat} {y : Int} (h : Mid B0 B gr gm gn k next root (.slice (some ⟨g, 0, none⟩) n c) vw l ws ids nn w W) (hB : B0 ≤ B) (hl : l.length = n) (hi : l[i]? = some (nd, ⟨P, K, R⟩))
    (ho : W'.ownsRow B 3 1 (.slice Ak (K.n + 1) ck) (K.n + 1) (intCells nd.kids ++ [.int .i64 y])) (hg : W.grownBy W' (Value.slice K.A K.n K.c).ownBlock) (hnew : (Value.slice Ak (K.n + 1) ck).ownBlock = (Value.slice K.A K.n K.c).ownBlock ∨ (Value.slice Ak (K.n + 1) ck).ownBlock = some W.heap.size) :
    Mid B0 B gr gm gn k next root (.slice (some ⟨g, 0, none⟩) n c) vw (l.set i ({ nd with kids := nd.kids ++ [y] }, ⟨P, ⟨Ak, K.n + 1, ck⟩, R⟩)) ws ids nn w (W'.setCell ⟨g, i * 7 + 5, none⟩ (.slice Ak (K.n + 1) ck)) := by
  have hkr : W.ownsRow B 3 1 (.slice K.A K.n K.c) K.n (intCells nd.kids) := (h.np.leaf _ (List.mem_of_getElem? hi)).k
  have hbx := h.bx.grown hg (Ne.symm (own_blk_ne hkr h.bx (by decide)))
  have hnb := h.nb.grown hg (Ne.symm (own_blk_ne hkr h.nb (by decide)))
  have hst := h.set.grown hkr hg
  have hgB : B ≤ g := (World.ownsRow.lt h.np.own g rfl).1
  have hgg : g ≠ gr := by have := h.l2; omega
  have hgn : g ≠ gn := fun e => h.gv (by rw [e]; rfl)
  have hgm : g ≠ gm := by have := h.l3; omega
  exact ⟨hbx.far (p := ⟨g, _, none⟩) (Ne.symm hgg) _, h.np.kid hl hi ho hg hnew, hst.set (p := ⟨g, _, none⟩) (Ne.symm hgm) _, hnb.far (p := ⟨g, _, none⟩) (Ne.symm hgn) _,
    (below_own h.bel h.hs hg fun x hx => by have := (World.ownsRow.lt hkr x hx).1; omega).setCell (p := ⟨g, _, none⟩) (by show B0 ≤ g; omega) _, h.l0, h.l1, h.l2, h.l3, h.lgn, h.gv⟩
/-- a number more is told -/
theorem Mid.put {y : Int} (h : Mid B0 B gr gm gn k next root v vw l ws ids nn w W) (hs : SeenIs W' gm (k + 1) (ids ++ [y])) (hg : W.grownBy W' (some gm)) : Mid B0 B gr gm gn (k + 1) next root v vw l ws (ids ++ [y]) nn w W' :=
  ⟨h.bx.grown hg (fun e => absurd (Option.some.inj e).symm (h.set.blk_ne h.bx)), h.np.map hg (fun g cs t e => by obtain rfl := Option.some.inj e; exact h.set.not_cells _ _ _), hs, h.nb.grown hg (fun e => absurd (Option.some.inj e).symm (h.set.blk_ne h.nb)),
    below_own h.bel h.hs hg fun x hx => by obtain rfl := Option.some.inj hx; exact h.l1, h.l0, h.l1, h.l2, h.l3, h.lgn, h.gv⟩
/-- the way: cut, and a place more -/
theorem Mid.wayA {vw' : Value} {ws' : List Int} (h : Mid B0 B gr gm gn k next root v vw l ws ids nn w W) (hB : B0 ≤ B) (ho : W'.ownsRow B 3 1 vw' ws'.length (intCells ws')) (hg : W.grownBy W' vw.ownBlock) (hnew : vw'.ownBlock = vw.ownBlock ∨ vw'.ownBlock = some W.heap.size) :
    Mid B0 B gr gm gn k next root v vw' l ws' ids nn w (W'.setCell ⟨gr, 4, none⟩ vw') := by
  have hbx := h.bx.grown hg (Ne.symm (own_blk_ne h.np.way h.bx (by decide)))
  have hnb := h.nb.grown hg (Ne.symm (own_blk_ne h.np.way h.nb (by decide)))
  have hst := h.set.grown h.np.way hg
  exact ⟨by have := hbx.set_ 4 vw'; simpa [rdBox] using this, (h.np.wayA ho hg hnew).other hbx (by decide) (by decide) (by decide) (by decide) _ _, hst.set (p := ⟨gr, 4, none⟩) (hst.blk_ne hbx) _, hnb.far (p := ⟨gr, 4, none⟩) h.ne _,
    (below_own h.bel h.hs hg fun x hx => by have := (World.ownsRow.lt h.np.way x hx).1; omega).setCell (p := ⟨gr, 4, none⟩) h.l0 _, h.l0, h.l1, h.l2, h.l3, h.lgn, h.gv⟩
/-- what there is behind the last step -/
structure MidE (B0 B gr gm k : Nat) (next root : Int) (v vw : Value) (l : List (Nd × Leaf)) (ws ids : List Int) (w W : World) : Prop where
  bx : Blk W gr 45 (rdBox next v gm root vw)
  np : NP B v vw l ws W
  set : SeenIs W gm k ids
  bel : Below B0 w W
theorem Mid.node {v' : Value} (h : Mid B0 B gr gm gn k next root v vw l ws ids nn w W) (hB : B0 ≤ B) (h1 : nn.props = []) (h2 : nn.kids = []) (h3 : nn.refs = []) (hz : SzN nn)
    (ho : OwnN W' B v' (l ++ [(nn, ⟨⟨none, 0, 0⟩, ⟨none, 0, 0⟩, ⟨none, 0, 0⟩⟩)])) (hg : W.grownBy W' v.ownBlock) :
    MidE B0 B gr gm k next root v' vw (l ++ [(nn, ⟨⟨none, 0, 0⟩, ⟨none, 0, 0⟩, ⟨none, 0, 0⟩⟩)]) ws ids w (W'.setCell ⟨gr, 1, none⟩ v') := by
  have hbx := h.bx.grown hg (Ne.symm (own_blk_ne h.np.own h.bx (by decide)))
  have hst := h.set.grown h.np.own hg
  exact ⟨by have := hbx.set_ 1 v'; simpa [rdBox] using this, (h.np.node ho hg h1 h2 h3 rfl hz).other hbx (by decide) (by decide) (by decide) (by decide) _ _, hst.set (p := ⟨gr, 1, none⟩) (hst.blk_ne hbx) _,
    (below_own h.bel h.hs hg fun x hx => by have := (World.ownsRow.lt h.np.own x hx).1; omega).setCell (p := ⟨gr, 1, none⟩) h.l0 _⟩
end
end Go.Proofs.YtjjlofaejpnnnaaGreatDoor
namespace Go.Proofs.YtjjlofaejpnnnaaGreatDoor
open Go Go.RowKit
set_option linter.unusedVariables false
theorem cells_new (w : World) (news : List UInt8) (cs : Array Value) (T : TypeId) (hc : cs.toList = news.map enc) : ∀ j u, (news.map enc)[j]? = some u → (w.alloc (.cells cs T)).cell? ((⟨w.heap.size, 0, none⟩ : Addr).add j) = some u := by
  intro j u h
  have e : (⟨w.heap.size, 0, none⟩ : Addr).add j = ⟨w.heap.size, j, none⟩ := by simp [Addr.add]; exact fun h => h.symm
  rw [e, World.cell?_alloc_at _ _ _ _ rfl, ← Array.getElem?_toList, hc, h]
theorem cells_newd (w : World) (news : List UInt8) (cs : Array Value) (T : TypeId) (hc : cs.toList = news.map enc) : ∀ j u, (news.map enc)[j]? = some u → (w.alloc (.cells cs T)).drew.cell? ((⟨w.heap.size, 0, none⟩ : Addr).add j) = some u :=
  cells_new w news cs T hc
theorem and_15 (c : UInt8) : bits BinOp.and IntKind.u8 (c.toNat : Int) 15 = (c.toNat : Int) % 16 := by
  revert c; apply all256; decide +kernel
theorem hex_at (k : Nat) (h : k < 16) : (⟨#[48, 49, 50, 51, 52, 53, 54, 55, 56, 57, 97, 98, 99, 100, 101, 102]⟩ : ByteArray)[k]'h = hexOf k := by
  have : ∀ k : Fin 16, (⟨#[48, 49, 50, 51, 52, 53, 54, 55, 56, 57, 97, 98, 99, 100, 101, 102]⟩ : ByteArray)[k.val]'k.isLt = hexOf k.val := by decide +kernel
  exact this ⟨k, h⟩
theorem toNat_q (n : Nat) : ((n : Int) / 16).toNat = n / 16 := by omega
theorem toNat_r (n : Nat) : ((n : Int) % 16).toNat = n % 16 := by omega
/-- what addForm leaves -/
def Added (B : Nat) (w : World) (l : List UInt8) (e : Ending) (w' : World) : Prop := ∃ v', e = .returned v' ∧ ownB w' B v' l ∧ Below B w w'
set_option maxHeartbeats 400000 in
theorem addForm_any (B : Nat) (v : Value) (l : List UInt8) (c : UInt8) (w : World) (hown : ownB w B v l) (hB : B ≤ w.heap.size) (hroom : l.length + 4 ≤ 140737488355328) :
    Calls Tryz.prog 96 #[v, .int .u8 c.toNat] w (Added B w (l ++ form c)) := by
  have hlt := c.toNat_lt
  by_cases c1 : c.toNat = 34 ∨ c.toNat = 92
  · have hf : form c = [92, c] := by unfold form; rw [if_pos c1]
    rw [hf]
    clear hf
    rcases c1 with c1 | c1
    · have d1 : ((c.toNat : Int) == 34) = true := by rw [beq_iff_eq]; omega
      clear c1
      go_enter Tryz.func96, Tryz.ntmps96
      go_wp2_with (at_builtin; refine app_bytes rfl _ _ rfl B v l rfl (hown.alloc _) ⟨w.heap.size, 0, none⟩ 2 2 [92, c] rfl rfl (cells_new w _ _ _ rfl) (by omega) (by simp; omega) ?_; intro v' w1 hown1 hb1)
      go_ret
      exact ⟨_, rfl, hown1, ((Below.refl _ _).alloc hB _).trans hb1⟩
    · have d1 : ((c.toNat : Int) == 92) = true := by rw [beq_iff_eq]; omega
      have d2 : ((c.toNat : Int) == 34) = false := by rw [beq_eq_false_iff_ne]; omega
      clear c1
      go_enter Tryz.func96, Tryz.ntmps96
      go_wp2_with (at_builtin; refine app_bytes rfl _ _ rfl B v l rfl (hown.alloc _) ⟨w.heap.size, 0, none⟩ 2 2 [92, c] rfl rfl (cells_new w _ _ _ rfl) (by omega) (by simp; omega) ?_; intro v' w1 hown1 hb1)
      go_ret
      exact ⟨_, rfl, hown1, ((Below.refl _ _).alloc hB _).trans hb1⟩
  · have d1 : ((c.toNat : Int) == 34) = false := by rw [beq_eq_false_iff_ne]; omega
    have d2 : ((c.toNat : Int) == 92) = false := by rw [beq_eq_false_iff_ne]; omega
    by_cases c2 : c.toNat = 10
    · have hf : form c = [92, 110] := by unfold form; rw [if_neg c1, if_pos c2]
      rw [hf]
      have d3 : ((c.toNat : Int) == 10) = true := by rw [beq_iff_eq]; omega
      clear hf c1 c2
      go_enter Tryz.func96, Tryz.ntmps96
      go_wp2_with (at_builtin; refine app_bytes rfl _ _ rfl B v l rfl (hown.alloc _) ⟨w.heap.size, 0, none⟩ 2 2 [92, 110] rfl rfl (cells_new w _ _ _ rfl) (by omega) (by simp; omega) ?_; intro v' w1 hown1 hb1)
      go_ret
      exact ⟨_, rfl, hown1, ((Below.refl _ _).alloc hB _).trans hb1⟩
    · have d3 : ((c.toNat : Int) == 10) = false := by rw [beq_eq_false_iff_ne]; omega
      cases hn : numBQ (c.toNat : Int) with
      | false =>
        have hf : form c = [c] := by unfold form; rw [if_neg c1, if_neg c2, hn]; rfl
        rw [hf]
        have HN := Lib.hid hn
        clear hf c1 c2 hn
        go_enter Tryz.func96, Tryz.ntmps96
        go_wp2_with (first | (at_builtin; refine app_bytes rfl _ _ rfl B v l rfl (hown.alloc _) ⟨w.heap.size, 0, none⟩ 1 1 [c] rfl rfl (cells_new w _ _ _ rfl) (by omega) (by simp; omega) ?_; intro v' w1 hown1 hb1) | (go_at_call 111; refine (numbered_no _ _ HN.out).mono ?_; rintro e w' ⟨rfl, rfl⟩))
        go_ret
        exact ⟨_, rfl, hown1, ((Below.refl _ _).alloc hB _).trans hb1⟩
      | true =>
        have hf : form c = [92, 120, hexOf (c.toNat / 16), hexOf (c.toNat % 16)] := by unfold form; rw [if_neg c1, if_neg c2, hn]; rfl
        rw [hf]
        have HN := Lib.hid hn
        have q0 : 0 ≤ (c.toNat : Int) / 16 := by omega
        have q1 : (c.toNat : Int) / 16 < 16 := by omega
        have r0 : 0 ≤ (c.toNat : Int) % 16 := by omega
        have r1 : (c.toNat : Int) % 16 < 16 := by omega
        have e15 := and_15 c
        clear hf c1 c2 hn
        go_enter Tryz.func96, Tryz.ntmps96
        go_wp2_with (go_at_call 111; refine (numbered_yes _ _ HN.out).mono ?_; rintro e w' ⟨rfl, rfl⟩)
        go_region_law (refine step_app_bytes rfl _ _ rfl B v l rfl (hown.alloc _) ⟨w.heap.size, 0, none⟩ 4 4 [92, 120, hexOf (c.toNat / 16), hexOf (c.toNat % 16)] rfl rfl (cells_newd w _ _ _ (by simp only [toNat_q, toNat_r]; rw [hex_at _ (by omega), hex_at _ (by omega)]; rfl)) (by omega) (by go_simp; omega) ?_; intro v' w1 hown1 hb1)
        all_goals go_wp2
        all_goals go_ret
        all_goals exact ⟨_, rfl, hown1, (((Below.refl _ _).alloc hB _).drew).trans hb1⟩
end Go.Proofs.YtjjlofaejpnnnaaGreatDoor
namespace Go.Proofs.YtjjlofaejpnnnaaGreatDoor
open Go Go.RowKit
set_option linter.unusedVariables false
theorem take_snoc (s : ByteArray) (k : Nat) (h : k < s.size) : s.data.toList.take (k + 1) = s.data.toList.take k ++ [s[k]] := by
  rw [List.take_succ_eq_append_getElem (by simpa using h)]; rfl
theorem flat_take_le (l : List UInt8) (k : Nat) : ((l.take k).flatMap form).length ≤ (l.flatMap form).length := by
  have h : l.flatMap form = (l.take k).flatMap form ++ (l.drop k).flatMap form := by rw [← List.flatMap_append, List.take_append_drop]
  rw [h, List.length_append]; omega
theorem flat_ge (l : List UInt8) : l.length ≤ (l.flatMap form).length := by
  induction l with
  | nil => simp
  | cons c l ih =>
    rw [List.flatMap_cons, List.length_append, List.length_cons]
    have := form_length c
    omega
def Quoted (w : World) (l : List UInt8) (e : Ending) (w' : World) : Prop := e = .returned (.string ⟨l.toArray⟩) ∧ Below w.heap.size w w'
theorem quote_rel {s : ByteArray} {k : Nat} (h : k < s.size) : (34 :: (s.data.toList.take k).flatMap form) ++ form s[k] = 34 :: (s.data.toList.take (k + 1)).flatMap form := by
  rw [take_snoc s k h, List.flatMap_append]; simp
set_option maxHeartbeats 400000 in
theorem quote_any (s : ByteArray) (w : World) (hs : (quote s.data.toList).length + 4 ≤ 140737488355328) :
    Calls Tryz.prog 61 #[.string s] w (Quoted w (quote s.data.toList)) := by
  have hq : (quote s.data.toList).length = (s.data.toList.flatMap form).length + 2 := by simp [quote]
  have hg := flat_ge s.data.toList
  have hsz : s.data.toList.length = s.size := by rw [Array.length_toList]; rfl
  have hroom : (s.data.toList.flatMap form).length + 6 ≤ 140737488355328 := by omega
  have hmax : s.size ≤ 140737488355328 := by omega
  have ROOM := Lib.hid hroom
  clear hs hq hg hsz hroom
  obtain ⟨i0, hi, hz0, hz1, hz2⟩ := info_parts byteInfo
  go_enter Tryz.func61, Tryz.ntmps61
  go_wp2_with (first | (at_make; refine wpList_make_own w rfl (.const (.int .i64 0)) (.tmp 7) 63 rfl w.heap.size 5 i0 (.int .u8 0) 1 Tryz.underlying63 hi hz0 hz1 .i64 .i64 ((s.size : Int) + 2) (s.size + 2) rfl rfl (by omega) (by rw [hz2]; omega) (by unfold maxLen; omega) (Nat.le_refl _) ?_; intro w1 hown1 hg1; have hown : ownB w1 w.heap.size (.slice (some ⟨w.heap.size, 0, none⟩) 0 (s.size + 2)) [] := hown1; have hb1 : Below w.heap.size w w1 := (Below.refl _ _).grown hg1 (Nat.le_refl _) (fun k h => by cases h); have hsz1 : w.heap.size ≤ w1.heap.size := hb1.size; clear hown1 hg1) | (at_builtin; refine app_bytes rfl _ _ rfl w.heap.size _ [] rfl (hown.alloc _) ⟨w1.heap.size, 0, none⟩ 1 1 [34] rfl rfl (cells_new w1 _ _ _ rfl) (by simp) (by simp; omega) ?_; intro v2 w2 hown2 hb2))
  have hb2' : Below w.heap.size w w2 := (hb1.alloc hsz1 _).trans hb2
  clear hb1 hb2 hown
  go_loopw [3, 4] (fun v i wr => ∃ k : Nat, k ≤ s.size ∧ i = .int .i64 k ∧ ownB wr w.heap.size v (34 :: (s.data.toList.take k).flatMap form) ∧ Below w.heap.size w wr) (fun _ i _ => s.size - (intOf i).toNat)
  case atStart => exact ⟨0, Nat.zero_le _, rfl, by simpa using hown2, hb2'⟩
  case round =>
    obtain ⟨k, hk, rfl, hown, hb⟩ := hrel
    clear hown2 hb2'
    have hfl := flat_take_le s.data.toList k
    have hszr : w.heap.size ≤ wr.heap.size := hb.size
    have hroom1 : (34 :: (s.data.toList.take k).flatMap form).length + 4 ≤ 140737488355328 := by have := ROOM.out; simp only [List.length_cons]; omega
    have R1 := Lib.hid hroom1
    clear hroom1 hfl
    by_cases hlt : k < s.size
    · go_wp2_with (go_at_call 96; refine (addForm_any w.heap.size _ _ s[k] _ hown hszr R1.out).mono ?_; rintro e w' ⟨v', rfl, hown', hb'⟩)
      go_roundw
      case rel => exact ⟨k + 1, by omega, by go_num, by rw [← quote_rel hlt]; exact hown', hb.trans hb'⟩
      case measure => simp [intOf]; omega
    · obtain rfl : k = s.size := by omega
      go_wp2_with (at_builtin; refine app_bytes rfl _ _ rfl w.heap.size _ _ rfl (hown.alloc _) ⟨wr.heap.size, 0, none⟩ 1 1 [34] rfl rfl (cells_new wr _ _ _ rfl) (by have := R1.out; omega) (by simp; omega) ?_; intro v3 w3 hown3 hb3; have hcv := conv_own hown3)
      go_ret
      refine ⟨?_, (hb.alloc hszr _).trans hb3⟩
      have e : s.data.toList.take s.size = s.data.toList := List.take_of_length_le (by rw [Array.length_toList]; exact Nat.le_refl _)
      rw [e]
      rfl
end Go.Proofs.YtjjlofaejpnnnaaGreatDoor

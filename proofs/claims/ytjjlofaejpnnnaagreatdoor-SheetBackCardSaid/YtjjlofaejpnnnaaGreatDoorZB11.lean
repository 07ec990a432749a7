/-
  WHAT IS READ HANGS TOGETHER, in plain mathematics: kids, parents, levels; a node more.
  A LINE BY PLACES, in plain mathematics: words, blanks, what a line is; the lines that are left.
  A LINE READ, in plain mathematics: what is read still hangs together; the number with which the line begins.
-/
import Derived.Test.YtjjlofaejpnnnaaGreatDoorZB10
namespace Go.Proofs.YtjjlofaejpnnnaaGreatDoor
open Go Go.RowKit
set_option linter.unusedVariables false
/-- a node's number, level, parent -/
abbrev TE := Int × Nat × Int
/-- .. its kids, role -/
abbrev EE := TE × List Int × ByteArray
/-- those ahead of the first one that stands no deeper than k -/
def segT (k : Nat) (L : List TE) : List TE := L.takeWhile fun e => decide (k < e.2.1)
/-- .. right below level k -/
def FT (k : Nat) (L : List TE) : List TE := (segT k L).filter fun e => e.2.1 == k + 1
def WFE : List EE → Prop
  | [] => True
  | e :: t => e.2.1 = (FT e.1.2.1 (t.map (·.1))).map (·.1) ∧ (∀ x ∈ FT e.1.2.1 (t.map (·.1)), x.2.2 = e.1.1) ∧ WFE t
def StepT : List TE → Prop
  | [] => True
  | e :: t => (∀ x ∈ t.head?, x.2.1 ≤ e.2.1 + 1) ∧ StepT t
section
variable {k : Nat} {L M : List TE} {y : TE}
theorem segT_nil : segT k [] = [] := rfl
theorem segT_cons_in {e : TE} (h : k < e.2.1) : segT k (e :: L) = e :: segT k L := by unfold segT; rw [List.takeWhile_cons, if_pos (by simpa using h)]
theorem segT_cons_out {e : TE} (h : ¬ k < e.2.1) : segT k (e :: L) = [] := by unfold segT; rw [List.takeWhile_cons, if_neg (by simpa using h)]
theorem segT_app_in (h : ∀ x ∈ L, k < x.2.1) : segT k (L ++ M) = L ++ segT k M := by
  unfold segT
  exact List.takeWhile_append_of_pos fun x hx => by simpa using h x hx
theorem segT_app_out : ∀ {L : List TE}, (∃ x ∈ L, ¬ k < x.2.1) → segT k (L ++ M) = segT k L
  | [], h => by obtain ⟨x, hx, _⟩ := h; cases hx
  | e :: L, h => by
    rw [List.cons_append]
    by_cases he : k < e.2.1
    · rw [segT_cons_in he, segT_cons_in he, segT_app_out]
      obtain ⟨x, hx, hn⟩ := h
      rcases List.mem_cons.1 hx with rfl | hx
      · exact absurd he hn
      · exact ⟨x, hx, hn⟩
    · rw [segT_cons_out he, segT_cons_out he]
theorem segT_all (h : ∀ x ∈ L, k < x.2.1) : segT k L = L := by
  have := segT_app_in (M := []) h
  rwa [List.append_nil, segT_nil, List.append_nil] at this
theorem segT_lt : ∀ x ∈ segT k L, k < x.2.1 := by
  induction L with
  | nil => intro x hx; cases hx
  | cons e L ih =>
    intro x hx
    by_cases he : k < e.2.1
    · rw [segT_cons_in he] at hx
      rcases List.mem_cons.1 hx with rfl | hx
      · exact he
      · exact ih x hx
    · rw [segT_cons_out he] at hx; cases hx
theorem FT_snoc_ne (h : y.2.1 ≠ k + 1) : FT k (L ++ [y]) = FT k L := by
  unfold FT
  by_cases ha : ∀ x ∈ L, k < x.2.1
  · rw [segT_app_in ha, segT_all ha]
    by_cases hy : k < y.2.1
    · rw [segT_cons_in hy, segT_nil, List.filter_append, List.filter_cons_of_neg (by simpa using h)]
      simp
    · rw [segT_cons_out hy, List.append_nil]
  · rw [segT_app_out (by
      apply Classical.byContradiction
      intro hc
      exact ha fun x hx => Classical.byContradiction fun hn => hc ⟨x, hx, hn⟩)]
theorem FT_snoc_in (ha : ∀ x ∈ L, k < x.2.1) (h : y.2.1 = k + 1) : FT k (L ++ [y]) = FT k L ++ [y] := by
  unfold FT
  rw [segT_app_in ha, segT_all ha, segT_cons_in (by omega), segT_nil, List.filter_append, List.filter_cons_of_pos (by simpa using h)]
  rfl
theorem FT_snoc_out (ha : ∃ x ∈ L, ¬ k < x.2.1) : FT k (L ++ [y]) = FT k L := by
  unfold FT
  rw [segT_app_out ha]
theorem FT_sub : (FT k L).Sublist L := List.Sublist.trans List.filter_sublist (List.takeWhile_sublist _)
end
theorem WFE.right : ∀ {A B : List EE}, WFE (A ++ B) → WFE B
  | [], _, h => h
  | _ :: A, B, h => WFE.right (A := A) h.2.2
theorem StepT.right : ∀ {A B : List TE}, StepT (A ++ B) → StepT B
  | [], _, h => h
  | _ :: A, B, h => StepT.right (A := A) h.2
/-- a node more that stands as a root of what is here -/
theorem WFE.low {n : EE} (hk : n.2.1 = []) : ∀ {l : List EE}, WFE l → (∀ e ∈ l, n.1.2.1 ≤ e.1.2.1) → WFE (l ++ [n])
  | [], _, _ => ⟨(by show n.2.1 = _; rw [hk]; rfl), (fun x hx => nomatch hx), trivial⟩
  | e :: t, h, hd => by
    have he := hd e (by simp)
    have hne : n.1.2.1 ≠ e.1.2.1 + 1 := by omega
    refine ⟨?_, ?_, WFE.low hk h.2.2 fun x hx => hd x (by simp [hx])⟩
    · show e.2.1 = (FT e.1.2.1 ((t ++ [n]).map (·.1))).map (·.1)
      rw [List.map_append, List.map_singleton, FT_snoc_ne hne]; exact h.1
    · show ∀ x ∈ FT e.1.2.1 ((t ++ [n]).map (·.1)), x.2.2 = e.1.1
      rw [List.map_append, List.map_singleton, FT_snoc_ne hne]; exact h.2.1
/-- a node more below another -/
theorem WFE.add {n p p' : EE} (hk : n.2.1 = []) (hpar : n.1.2.2 = p.1.1) (hdp : n.1.2.1 = p.1.2.1 + 1) (hp1 : p'.1 = p.1) (hp2 : p'.2.1 = p.2.1 ++ [n.1.1]) {Z : List EE} (hZ : ∀ z ∈ Z, p.1.2.1 < z.1.2.1) :
    ∀ {A : List EE}, WFE (A ++ p :: Z) → WFE (A ++ p' :: (Z ++ [n]))
  | [], h => by
    have hz : ∀ x ∈ Z.map (·.1), p.1.2.1 < x.2.1 := fun x hx => by obtain ⟨z, hz, rfl⟩ := List.mem_map.1 hx; exact hZ z hz
    have e : FT p'.1.2.1 ((Z ++ [n]).map (·.1)) = FT p.1.2.1 (Z.map (·.1)) ++ [n.1] := by
      rw [List.map_append, List.map_singleton, hp1, FT_snoc_in hz hdp]
    refine ⟨?_, ?_, WFE.low hk h.2.2 fun z hz => by have := hZ z hz; omega⟩
    · rw [e, hp2, h.1, List.map_append]; rfl
    · rw [e]
      intro x hx
      rw [hp1]
      rcases List.mem_append.1 hx with hx | hx
      · exact h.2.1 x hx
      · obtain rfl : x = n.1 := by simpa using hx
        exact hpar
  | e :: A, h => by
    have em : (A ++ p' :: (Z ++ [n])).map (·.1) = (A ++ p :: Z).map (·.1) ++ [n.1] := by simp [hp1]
    have eF : FT e.1.2.1 ((A ++ p' :: (Z ++ [n])).map (·.1)) = FT e.1.2.1 ((A ++ p :: Z).map (·.1)) := by
      rw [em]
      by_cases hd : n.1.2.1 = e.1.2.1 + 1
      · exact FT_snoc_out ⟨p.1, by simp, by omega⟩
      · exact FT_snoc_ne hd
    refine ⟨?_, ?_, WFE.add hk hpar hdp hp1 hp2 hZ (A := A) h.2.2⟩
    · show e.2.1 = (FT e.1.2.1 ((A ++ p' :: (Z ++ [n])).map (·.1))).map (·.1)
      rw [eF]; exact h.1
    · show ∀ x ∈ FT e.1.2.1 ((A ++ p' :: (Z ++ [n])).map (·.1)), x.2.2 = e.1.1
      rw [eF]; exact h.2.1
theorem StepT.snoc {y : TE} : ∀ {L : List TE}, StepT L → (∀ x ∈ L.getLast?, y.2.1 ≤ x.2.1 + 1) → StepT (L ++ [y])
  | [], _, _ => ⟨fun x hx => (by cases hx), trivial⟩
  | [e], h, hl => ⟨fun x hx => (by
      obtain rfl : y = x := by simpa using hx
      exact hl e (by simp)), fun x hx => (by cases hx), trivial⟩
  | e :: f :: t, h, hl => ⟨fun x hx => h.1 x (by simpa using hx), StepT.snoc (L := f :: t) h.2 fun x hx => hl x (by simpa using hx)⟩
/-- behind the last one of a level all stand deeper -/
theorem deeper {d : Nat} : ∀ {Z : List TE}, StepT Z → (∀ z ∈ Z, z.2.1 ≠ d) → (∀ x ∈ Z.getLast?, d ≤ x.2.1) → ∀ z ∈ Z, d < z.2.1
  | [], _, _, _ => fun z hz => by cases hz
  | [e], _, hn, hl => fun z hz => by
    obtain rfl : z = e := by simpa using hz
    have h1 := hl z (by simp)
    have h2 := hn z (by simp)
    omega
  | e :: f :: t, h, hn, hl => by
    have ih := deeper (Z := f :: t) h.2 (fun z hz => hn z (by simp [hz])) (fun x hx => hl x (by simpa using hx))
    intro z hz
    rcases List.mem_cons.1 hz with rfl | hz
    · have h1 := h.1 f (by simp)
      have h2 := ih f (by simp)
      have h3 := hn z (by simp)
      omega
    · exact ih z hz
/-- the entries of what has been read -/
def entF (nd : Nd) (d : Nat) : EE := ((nd.id, d, nd.par), nd.kids, nd.role)
def entE (st : RS) : List EE := List.zipWith entF st.nds st.deep
theorem entE_get {st : RS} {i : Nat} {e : EE} (h : (entE st)[i]? = some e) : ∃ nd d, st.nds[i]? = some nd ∧ st.deep[i]? = some d ∧ e = entF nd d := by
  unfold entE at h
  rw [List.getElem?_zipWith] at h
  cases hn : st.nds[i]? with
  | none => rw [hn] at h; cases h
  | some nd =>
    cases hd : st.deep[i]? with
    | none => rw [hn, hd] at h; cases h
    | some d => rw [hn, hd] at h; exact ⟨nd, d, rfl, rfl, (Option.some.inj h).symm⟩
theorem entE_at {st : RS} {i : Nat} {nd : Nd} {d : Nat} (hn : st.nds[i]? = some nd) (hd : st.deep[i]? = some d) : (entE st)[i]? = some (entF nd d) := by
  unfold entE
  rw [List.getElem?_zipWith, hn, hd]
theorem entE_len {st : RS} (hl : st.deep.length = st.nds.length) : (entE st).length = st.nds.length := by
  unfold entE
  rw [List.length_zipWith, hl, Nat.min_self]
theorem entE_last {st : RS} {nd nd' : Nd} (hl : st.nds.getLast? = some nd) (h1 : nd'.id = nd.id) (h2 : nd'.par = nd.par) (h3 : nd'.kids = nd.kids) (h4 : nd'.role = nd.role) : entE (lastV st nd') = entE st := by
  apply List.ext_getElem?
  intro i
  unfold entE
  rw [List.getElem?_zipWith, List.getElem?_zipWith, lastV_set hl, show (lastV st nd').deep = st.deep from rfl, List.getElem?_set]
  by_cases hi : st.nds.length - 1 = i
  · subst hi
    obtain ⟨hlt, hg⟩ := last_get hl
    rw [if_pos rfl, if_pos (by omega), hg]
    cases st.deep[st.nds.length - 1]? with
    | none => rfl
    | some d => simp only [entF, h1, h2, h3, h4]
  · rw [if_neg hi]
/-- what holds of what has been read, of kids, parents, levels, words -/
structure RsTree (st : RS) : Prop where
  wf : WFE (entE st)
  step : StepT ((entE st).map (·.1))
  sp : ∀ nd ∈ st.nds, SpN st.next nd
  par : ∀ e ∈ entE st, (e.1.2.1 = 1 ∧ e.1.2.2 = 0 ∧ e.2.2.toList = []) ∨ (2 ≤ e.1.2.1 ∧ wordB e.2.2 = true ∧ ∃ q ∈ entE st, q.1.1 = e.1.2.2 ∧ e.1.1 ∈ q.2.1 ∧ q.1.2.1 + 1 = e.1.2.1)
  roots : ((entE st).filter fun e => e.1.2.1 == 1).Pairwise fun a b => a.1.1 < b.1.1
  top : ∀ e ∈ entE st, e.1.2.1 = 1 → e.1.1 ≤ rootV st
  head : ∀ x ∈ ((entE st).map (·.1)).head?, x.2.1 = 1
theorem rsTree_nil (n : Int) : RsTree ⟨n, [], []⟩ := ⟨trivial, trivial, (fun nd h => nomatch h), (fun e h => nomatch h), List.Pairwise.nil, (fun e h => nomatch h), (fun e h => nomatch h)⟩
/-- the last node has a word more -/
theorem RsTree.last {st : RS} {nd nd' : Nd} (h : RsTree st) (hl : st.nds.getLast? = some nd) (h1 : nd'.id = nd.id) (h2 : nd'.par = nd.par) (h3 : nd'.kids = nd.kids) (h4 : nd'.role = nd.role) (hs : SpN st.next nd') : RsTree (lastV st nd') := by
  have e := entE_last hl h1 h2 h3 h4
  refine ⟨by rw [e]; exact h.wf, by rw [e]; exact h.step, fun x hx => ?_, by rw [e]; exact h.par, by rw [e]; exact h.roots, by rw [e, rootV_last hl h1]; exact h.top, by rw [e]; exact h.head⟩
  rw [lastV_set hl] at hx
  rcases List.mem_or_eq_of_mem_set hx with hx | rfl
  · exact h.sp x hx
  · exact hs
theorem zipSnoc {α β γ : Type} (f : α → β → γ) : ∀ {l : List α} {m : List β} (a : α) (b : β), l.length = m.length → List.zipWith f (l ++ [a]) (m ++ [b]) = List.zipWith f l m ++ [f a b]
  | [], [], a, b, _ => rfl
  | x :: l, y :: m, a, b, h => by
    simp only [List.cons_append, List.zipWith_cons_cons]
    rw [zipSnoc f a b (by simpa using h)]
/-- a root more -/
theorem RsTree.root {st : RS} {n : Nd} (h : RsTree st) (hok : RsOk st) (h1 : n.par = 0) (h2 : n.kids = []) (h3 : n.role.toList = []) (hs : SpN st.next n) (hr : rootV st < n.id) : RsTree ⟨st.next, st.nds ++ [n], st.deep ++ [1]⟩ := by
  have e : entE ⟨st.next, st.nds ++ [n], st.deep ++ [1]⟩ = entE st ++ [entF n 1] := zipSnoc entF n 1 hok.dl.symm
  have hpos : ∀ x ∈ entE st, 1 ≤ x.1.2.1 := fun x hx => by
    obtain ⟨i, hi⟩ := List.getElem?_of_mem hx
    obtain ⟨nd, d, _, hd, rfl⟩ := entE_get hi
    exact (hok.dk.pos d (List.mem_of_getElem? hd)).1
  have hrv : rootV ⟨st.next, st.nds ++ [n], st.deep ++ [1]⟩ = n.id := by
    unfold rootV
    simp only [List.map_append, List.map_singleton]
    exact rootI_new st.deep (st.nds.map (·.id)) n.id (by rw [List.length_map]; exact hok.dl)
  refine ⟨by rw [e]; exact h.wf.low h2 hpos, ?_, fun x hx => ?_, ?_, ?_, ?_, ?_⟩
  · rw [e, List.map_append, List.map_singleton]
    exact h.step.snoc fun x hx => by show (1 : Nat) ≤ _; omega
  · rcases List.mem_append.1 hx with hx | hx
    · exact h.sp x hx
    · obtain rfl : x = n := by simpa using hx
      exact hs
  · rw [e]
    intro x hx
    rcases List.mem_append.1 hx with hx | hx
    · rcases h.par x hx with h4 | ⟨h4, h5, q, hq, h6⟩
      · exact .inl h4
      · exact .inr ⟨h4, h5, q, by simp [hq], h6⟩
    · obtain rfl : x = entF n 1 := by simpa using hx
      exact .inl ⟨rfl, h1, h3⟩
  · rw [e, List.filter_append, List.pairwise_append]
    refine ⟨h.roots, ?_, fun a ha b hb => ?_⟩
    · rw [List.filter_cons_of_pos (by rfl)]; simp
    · obtain rfl : b = entF n 1 := by
        have := (List.mem_filter.1 hb).1
        simpa using this
      obtain ⟨ha1, ha2⟩ := List.mem_filter.1 ha
      have := h.top a ha1 (by simpa using ha2)
      show a.1.1 < n.id
      omega
  · rw [e, hrv]
    intro x hx hx1
    rcases List.mem_append.1 hx with hx | hx
    · have := h.top x hx hx1; omega
    · obtain rfl : x = entF n 1 := by simpa using hx
      exact Int.le_refl _
  · rw [e, List.map_append, List.map_singleton]
    have hh := h.head
    cases hE : (entE st).map (·.1) with
    | nil => intro x hx; obtain rfl : (entF n 1).1 = x := by simpa using hx
             rfl
    | cons a t => rw [hE] at hh; intro x hx; exact hh x (by simpa using hx)
theorem lastIx_last {l : List Nat} {d i : Nat} (h : lastIx l d = some i) : ∀ j, i < j → ∀ x, l[j]? = some x → x ≠ d := by
  intro j hij x hx hxd
  have hjl := (List.getElem?_eq_some_iff.1 hx).1
  unfold lastIx at h
  obtain ⟨_, as1, bs1, he, hbs⟩ := List.find?_eq_some_iff_append.1 h
  have hpw : (List.range l.length).reverse.Pairwise (fun a b => b < a) := by
    rw [List.pairwise_reverse]
    exact List.pairwise_lt_range
  rw [he, List.pairwise_append] at hpw
  have hjm : j ∈ as1 ++ i :: bs1 := by rw [← he]; simp [hjl]
  rcases List.mem_append.1 hjm with hm | hm
  · have := hbs j hm
    rw [List.getD_eq_getElem?_getD, hx] at this
    simp [hxd] at this
  · rcases List.mem_cons.1 hm with rfl | hm
    · omega
    · have := (List.pairwise_cons.1 hpw.2.1).1 j hm
      omega
/-- a node more below another -/
theorem RsTree.kid {st : RS} {n nd : Nd} {d i : Nat} (h : RsTree st) (hok : RsOk st) (h2 : n.kids = []) (h3 : wordB n.role = true) (hs : SpN st.next n) (hd0 : 0 < d) (hdl : d ≤ st.deep.getLastD 0) (hu : lastIx st.deep d = some i) (hn : st.nds[i]? = some nd) :
    RsTree ⟨st.next, st.nds.set i { nd with kids := nd.kids ++ [n.id] } ++ [{ n with par := nd.id }], st.deep ++ [d + 1]⟩ := by
  obtain ⟨hil, hid⟩ := lastIx_some hu
  have hdi : st.deep[i]? = some d := by
    rw [List.getD_eq_getElem?_getD] at hid
    rw [List.getElem?_eq_getElem hil] at hid ⊢
    simpa using hid
  have hlen := entE_len hok.dl
  have hie : i < (entE st).length := by rw [hlen, ← hok.dl]; exact hil
  have hat := entE_at hn hdi
  have e0 : entE st = (entE st).take i ++ entF nd d :: (entE st).drop (i + 1) := by
    conv => lhs; rw [← List.take_append_drop i (entE st)]
    rw [List.drop_eq_getElem_cons hie]
    rw [List.getElem?_eq_getElem hie] at hat
    rw [Option.some.inj hat]
  have eS : List.zipWith entF (st.nds.set i { nd with kids := nd.kids ++ [n.id] }) st.deep = (entE st).take i ++ entF { nd with kids := nd.kids ++ [n.id] } d :: (entE st).drop (i + 1) := by
    have e1 : List.zipWith entF (st.nds.set i { nd with kids := nd.kids ++ [n.id] }) st.deep = (entE st).set i (entF { nd with kids := nd.kids ++ [n.id] } d) := by
      apply List.ext_getElem?
      intro j
      unfold entE
      rw [List.getElem?_zipWith, List.getElem?_set, List.getElem?_set]
      by_cases hj : i = j
      · subst hj
        rw [if_pos rfl, if_pos (by rw [← hok.dl]; exact hil), if_pos rfl, if_pos (show i < (List.zipWith entF st.nds st.deep).length from hie), hdi]
      · rw [if_neg hj, if_neg hj, List.getElem?_zipWith]
    rw [e1, List.set_eq_take_append_cons_drop, if_pos hie]
  have e : entE ⟨st.next, st.nds.set i { nd with kids := nd.kids ++ [n.id] } ++ [{ n with par := nd.id }], st.deep ++ [d + 1]⟩ = (entE st).take i ++ entF { nd with kids := nd.kids ++ [n.id] } d :: ((entE st).drop (i + 1) ++ [entF { n with par := nd.id } (d + 1)]) := by
    have := zipSnoc entF (l := st.nds.set i { nd with kids := nd.kids ++ [n.id] }) (m := st.deep) { n with par := nd.id } (d + 1) (by rw [List.length_set]; exact hok.dl.symm)
    unfold entE at eS ⊢
    rw [this, eS]
    simp
  have hZ : ∀ z ∈ (entE st).drop (i + 1), d < z.1.2.1 := by
    have hst : StepT (((entE st).drop (i + 1)).map (·.1)) := by
      have := h.step
      rw [e0, List.map_append, List.map_cons] at this
      exact (StepT.right this).2
    have key := deeper (d := d) hst (fun z hz => ?_) (fun x hx => ?_)
    · intro z hz
      exact key z.1 (List.mem_map_of_mem hz)
    · obtain ⟨q, hq, rfl⟩ := List.mem_map.1 hz
      obtain ⟨j, hj⟩ := List.getElem?_of_mem hq
      rw [List.getElem?_drop] at hj
      obtain ⟨nd2, d2, _, hd2, rfl⟩ := entE_get hj
      exact lastIx_last hu (i + 1 + j) (by omega) d2 hd2
    · rw [List.getLast?_map] at hx
      obtain ⟨q, hq, rfl⟩ := Option.map_eq_some_iff.1 hx
      rw [List.getLast?_eq_getElem?, List.getElem?_drop, List.length_drop] at hq
      have hql := (List.getElem?_eq_some_iff.1 hq).1
      obtain ⟨nd2, d2, _, hd2, rfl⟩ := entE_get hq
      have e2 : st.deep.getLastD 0 = d2 := by
        rw [List.getLastD_eq_getLast?, List.getLast?_eq_getElem?]
        have : st.deep.length - 1 = i + 1 + ((entE st).length - (i + 1) - 1) := by rw [hok.dl, ← hlen]; omega
        rw [this, hd2]; rfl
      show d ≤ d2
      omega
  have hmem : ∀ x ∈ entE st, x = entF nd d ∨ x ∈ (entE st).take i ∨ x ∈ (entE st).drop (i + 1) := fun x hx => by
    rw [e0] at hx
    rcases List.mem_append.1 hx with hx | hx
    · exact .inr (.inl hx)
    · rcases List.mem_cons.1 hx with hx | hx
      · exact .inl hx
      · exact .inr (.inr hx)
  have hold : ∀ q ∈ entE st, ∃ q' ∈ (entE st).take i ++ entF { nd with kids := nd.kids ++ [n.id] } d :: ((entE st).drop (i + 1) ++ [entF { n with par := nd.id } (d + 1)]), q'.1 = q.1 ∧ ∀ k ∈ q.2.1, k ∈ q'.2.1 := fun q hq => by
    rcases hmem q hq with rfl | hq | hq
    · exact ⟨entF { nd with kids := nd.kids ++ [n.id] } d, by simp, rfl, fun k hk => List.mem_append_left _ hk⟩
    · exact ⟨q, by simp [hq], rfl, fun k hk => hk⟩
    · exact ⟨q, by simp [hq], rfl, fun k hk => hk⟩
  have hrv : rootV ⟨st.next, st.nds.set i { nd with kids := nd.kids ++ [n.id] } ++ [{ n with par := nd.id }], st.deep ++ [d + 1]⟩ = rootV st := by
    unfold rootV
    simp only [List.map_append, List.map_singleton]
    rw [set_ids (nd' := { nd with kids := nd.kids ++ [n.id] }) hn rfl]
    exact rootI_old st.deep (st.nds.map (·.id)) n.id hd0 (by rw [List.length_map]; exact hok.dl)
  have em : ((entE st).take i ++ entF { nd with kids := nd.kids ++ [n.id] } d :: ((entE st).drop (i + 1) ++ [entF { n with par := nd.id } (d + 1)])).map (·.1) = (entE st).map (·.1) ++ [(n.id, d + 1, nd.id)] := by
    conv => rhs; rw [e0]
    simp [entF]
  refine ⟨?_, ?_, fun x hx => ?_, ?_, ?_, ?_, ?_⟩
  · rw [e]
    refine WFE.add (n := entF { n with par := nd.id } (d + 1)) (p := entF nd d) (p' := entF { nd with kids := nd.kids ++ [n.id] } d) h2 rfl rfl rfl rfl hZ ?_
    rw [← e0]
    exact h.wf
  · rw [e, em]
    refine h.step.snoc fun x hx => ?_
    rw [List.getLast?_map] at hx
    obtain ⟨q, hq, rfl⟩ := Option.map_eq_some_iff.1 hx
    rw [List.getLast?_eq_getElem?] at hq
    obtain ⟨nd2, d2, _, hd2, rfl⟩ := entE_get hq
    have e2 : st.deep.getLastD 0 = d2 := by
      rw [List.getLastD_eq_getLast?, List.getLast?_eq_getElem?]
      rw [hlen, ← hok.dl] at hd2
      rw [hd2]; rfl
    show d + 1 ≤ d2 + 1
    omega
  · rcases List.mem_append.1 hx with hx | hx
    · rcases List.mem_or_eq_of_mem_set hx with hx | rfl
      · exact h.sp x hx
      · have := h.sp nd (List.mem_of_getElem? hn)
        exact ⟨this.con, this.props, this.refs⟩
    · obtain rfl := List.mem_singleton.1 hx
      exact ⟨hs.con, hs.props, hs.refs⟩
  · rw [e]
    intro x hx
    have hx2 : x = entF { n with par := nd.id } (d + 1) ∨ ∃ y ∈ entE st, x.1 = y.1 ∧ x.2.2 = y.2.2 := by
      rcases List.mem_append.1 hx with hx | hx
      · exact .inr ⟨x, by rw [e0]; simp [hx], rfl, rfl⟩
      · rcases List.mem_cons.1 hx with rfl | hx
        · exact .inr ⟨entF nd d, by rw [e0]; simp, rfl, rfl⟩
        · rcases List.mem_append.1 hx with hx | hx
          · exact .inr ⟨x, by rw [e0]; simp [hx], rfl, rfl⟩
          · exact .inl (by simpa using hx)
    rcases hx2 with rfl | ⟨y, hy, hy1, hy2⟩
    · exact .inr ⟨by show 2 ≤ d + 1; omega, h3, entF { nd with kids := nd.kids ++ [n.id] } d, by simp, rfl, by show n.id ∈ nd.kids ++ [n.id]; simp, rfl⟩
    · rw [hy1, hy2]
      rcases h.par y hy with h4 | ⟨h4, h5, q, hq, h6, h7, h8⟩
      · exact .inl h4
      · obtain ⟨q', hq', h9, h10⟩ := hold q hq
        exact .inr ⟨h4, h5, q', hq', by rw [h9]; exact h6, h10 _ h7, by rw [h9]; exact h8⟩
  · rw [e]
    have hr := h.roots
    rw [e0, List.filter_append] at hr
    rw [List.filter_append]
    have e3 : (entF { nd with kids := nd.kids ++ [n.id] } d :: ((entE st).drop (i + 1) ++ [entF { n with par := nd.id } (d + 1)])).filter (fun e => e.1.2.1 == 1) = if d = 1 then entF { nd with kids := nd.kids ++ [n.id] } d :: ((entE st).drop (i + 1)).filter (fun e => e.1.2.1 == 1) else ((entE st).drop (i + 1)).filter (fun e => e.1.2.1 == 1) := by
      have e4 : ((entE st).drop (i + 1) ++ [entF { n with par := nd.id } (d + 1)]).filter (fun e => e.1.2.1 == 1) = ((entE st).drop (i + 1)).filter (fun e => e.1.2.1 == 1) := by
        rw [List.filter_append, List.filter_cons_of_neg (by show ¬ (d + 1 == 1) = true; simp; omega)]
        simp
      by_cases h1 : d = 1
      · rw [if_pos h1, List.filter_cons_of_pos (by show (d == 1) = true; simp [h1]), e4]
      · rw [if_neg h1, List.filter_cons_of_neg (by show ¬ (d == 1) = true; simp [h1]), e4]
    rw [e3]
    by_cases h1 : d = 1
    · rw [if_pos h1]
      rw [List.filter_cons_of_pos (by show (d == 1) = true; simp [h1])] at hr
      rw [List.pairwise_append, List.pairwise_cons] at hr ⊢
      refine ⟨hr.1, hr.2.1, fun a ha b hb => ?_⟩
      rcases List.mem_cons.1 hb with rfl | hb
      · exact hr.2.2 a ha (entF nd d) (by simp)
      · exact hr.2.2 a ha b (by simp [hb])
    · rw [if_neg h1]
      rw [List.filter_cons_of_neg (by show ¬ (d == 1) = true; simp [h1])] at hr
      exact hr
  · rw [e, hrv]
    intro x hx hx1
    have hx2 : x.1 ∈ (entE st).map (·.1) ++ [(n.id, d + 1, nd.id)] := by rw [← em]; exact List.mem_map_of_mem hx
    rcases List.mem_append.1 hx2 with hx2 | hx2
    · obtain ⟨y, hy, hye⟩ := List.mem_map.1 hx2
      rw [← hye]
      exact h.top y hy (by rw [hye]; exact hx1)
    · have : x.1 = (n.id, d + 1, nd.id) := by simpa using hx2
      rw [this] at hx1
      simp only at hx1
      omega
  · rw [e, em]
    have hh := h.head
    cases hE : (entE st).map (·.1) with
    | nil => have : (entE st).length = 0 := by rw [← List.length_map (f := (·.1)), hE]; rfl
             omega
    | cons a t => rw [hE] at hh; intro x hx; exact hh x (by simpa using hx)
end Go.Proofs.YtjjlofaejpnnnaaGreatDoor
namespace Go.Proofs.YtjjlofaejpnnnaaGreatDoor
open Go Go.RowKit
set_option linter.unusedVariables false
theorem bytesOf_isP (s : ByteArray) : bytesOf s.data.toList = s := by
  apply ByteArray.ext
  show s.data.toList.toArray = s.data
  simp
/-- the word from a place on -/
def wordAt (s : ByteArray) (i : Nat) : ByteArray := s.extract i (i + (wordP (s.data.toList.drop i)).length)
theorem wordAt_is (s : ByteArray) (i : Nat) : (wordAt s i).data.toList = wordP (s.data.toList.drop i) := by
  unfold wordAt
  rw [Lib.extract_data, Nat.add_sub_cancel_left]
  exact (List.prefix_iff_eq_take.1 (List.takeWhile_prefix _)).symm
theorem wordP_le (l : List UInt8) : (wordP l).length ≤ l.length := (List.takeWhile_prefix _).length_le
theorem wordAt_size (s : ByteArray) (i : Nat) : (wordAt s i).size = (wordP (s.data.toList.drop i)).length := by rw [← toList_eq, wordAt_is]
/-- how many blanks stand ahead -/
def blanksV (l : List UInt8) : Nat := (l.takeWhile (· == 32)).length
theorem blanksV_le (l : List UInt8) : blanksV l ≤ l.length := (List.takeWhile_prefix _).length_le
section
variable {st : RS} {s : ByteArray} {d : Nat}
theorem behind_size (i : Nat) : (s.data.toList.drop i).drop (wordP (s.data.toList.drop i)).length = s.data.toList.drop (i + (wordAt s i).size) := by
  rw [List.drop_drop, wordAt_size]
theorem at_le (i : Nat) (hi : i ≤ s.size) : i + (wordAt s i).size ≤ s.size := by
  have := wordP_le (s.data.toList.drop i)
  rw [List.length_drop, toList_eq] at this
  rw [wordAt_size]
  omega
theorem drop_end {i : Nat} (hi : s.size ≤ i) : s.data.toList.drop i = [] := List.drop_eq_nil_of_le (by rw [toList_eq]; exact hi)
theorem takesV_sub (h0 : st.next ≠ 0) (hd : blanksV s.data.toList = d) (hlt : d < s.size) : takesV st s.data.toList =
    if s[d].toNat = 46 ∨ s[d].toNat = 62 then
      (match st.nds.getLast?, s.data.toList.drop (d + 1 + (wordAt s (d + 1)).size) with
      | some nd, e :: v => if d = st.deep.getLastD 0 ∧ e = 61 ∧ wordB (wordAt s (d + 1)) = true then (if s[d].toNat = 62 then refersV st nd (wordAt s (d + 1)).data.toList v else hasV st nd (wordAt s (d + 1)).data.toList v) else none
      | _, _ => none)
    else (numberV (wordAt s d).data.toList st.next).bind fun id => nodeV st d id (s.data.toList.drop (d + (wordAt s d).size)) := by
  have e := drop_get' s d hlt
  have c46 : s[d].toNat = 46 ↔ s[d] = 46 := ⟨fun h => UInt8.toNat_inj.1 (by rw [h]; rfl), fun h => by rw [h]; rfl⟩
  have c62 : s[d].toNat = 62 ↔ s[d] = 62 := ⟨fun h => UInt8.toNat_inj.1 (by rw [h]; rfl), fun h => by rw [h]; rfl⟩
  unfold takesV
  rw [if_neg h0]
  unfold blanksV at hd
  simp only [hd, c46, c62]
  rw [← behind_size (d + 1), ← behind_size d]
  unfold wordB
  rw [wordAt_is, wordAt_is, e]
  rfl
/-- behind a blank: a word -/
def stepW (s : ByteArray) (at_ : Nat) : Option (ByteArray × Nat) := if h : at_ < s.size then (if s[at_].toNat = 32 ∧ wordB (wordAt s (at_ + 1)) = true then some (wordAt s (at_ + 1), at_ + 1 + (wordAt s (at_ + 1)).size) else none) else none
theorem wordV_at (at_ : Nat) : wordV (s.data.toList.drop at_) = (stepW s at_).map fun r => (r.1.data.toList, s.data.toList.drop r.2) := by
  unfold stepW
  by_cases h : at_ < s.size
  · rw [dif_pos h, drop_get' s _ h]
    have c32 : s[at_].toNat = 32 ↔ s[at_] = 32 := ⟨fun h => UInt8.toNat_inj.1 (by rw [h]; rfl), fun h => by rw [h]; rfl⟩
    show (if s[at_] = 32 ∧ wordL (wordP (s.data.toList.drop (at_ + 1))) = true then some (wordP (s.data.toList.drop (at_ + 1)), (s.data.toList.drop (at_ + 1)).drop (wordP (s.data.toList.drop (at_ + 1))).length) else none) = _
    rw [behind_size, ← wordAt_is]
    by_cases hc : s[at_] = 32 ∧ wordL (wordAt s (at_ + 1)).data.toList = true
    · rw [if_pos hc, if_pos ⟨c32.2 hc.1, hc.2⟩]; rfl
    · rw [if_neg hc, if_neg fun hx => hc ⟨c32.1 hx.1, hx.2⟩]; rfl
  · rw [dif_neg h, drop_end (by omega)]; rfl
theorem stepW_le {at_ : Nat} {r : ByteArray × Nat} (h : stepW s at_ = some r) : r.2 ≤ s.size ∧ r.1.size ≤ s.size := by
  unfold stepW at h
  split at h
  · rename_i hlt
    split at h
    · obtain rfl := Option.some.inj h
      have := at_le (s := s) (at_ + 1) (by omega)
      exact ⟨this, by simp only; omega⟩
    · cases h
  · cases h
/-- from here on: round k of the loop -/
def nodeR (st : RS) (s : ByteArray) (d : Nat) (id : Int) : Nat → ByteArray → ByteArray → Nat → Option RS
  | 0, role, con, at_ => if d = 0 then (stepW s at_).bind fun q => if q.2 = s.size then standsV st ⟨id, q.1, 0, role, [], [], []⟩ d else none
      else (stepW s at_).bind fun r => (stepW s r.2).bind fun q => if q.2 = s.size then standsV st ⟨id, q.1, 0, r.1, [], [], []⟩ d else none
  | 1, role, con, at_ => (stepW s at_).bind fun q => if q.2 = s.size then standsV st ⟨id, q.1, 0, role, [], [], []⟩ d else none
  | _, role, con, at_ => if at_ = s.size then standsV st ⟨id, con, 0, role, [], [], []⟩ d else none
theorem nodeR0 (id : Int) (role con : ByteArray) (p : Nat) : nodeR st s d id 0 role con p = if d = 0 then (stepW s p).bind fun q => if q.2 = s.size then standsV st ⟨id, q.1, 0, role, [], [], []⟩ d else none
      else (stepW s p).bind fun r => (stepW s r.2).bind fun q => if q.2 = s.size then standsV st ⟨id, q.1, 0, r.1, [], [], []⟩ d else none := rfl
theorem bytes_nil : bytesOf [] = ByteArray.empty := rfl
theorem nodeV_is (id : Int) (at_ : Nat) : nodeV st d id (s.data.toList.drop at_) = nodeR st s d id 0 ByteArray.empty ByteArray.empty at_ := by
  have hend : ∀ q : ByteArray × Nat, q.2 ≤ s.size → (s.data.toList.drop q.2 = [] ↔ q.2 = s.size) := fun q hq => by
    rw [List.drop_eq_nil_iff, toList_eq]; omega
  unfold nodeV
  rw [nodeR0]
  by_cases h0 : d = 0
  · rw [if_pos h0, if_pos h0]
    simp only [Option.bind_some, wordV_at, Option.bind_map]
    cases hq : stepW s at_ with
    | none => rfl
    | some q =>
      simp only [Option.bind_some, Function.comp, bytesOf_isP, bytes_nil]
      by_cases he : q.2 = s.size
      · rw [if_pos he, if_pos ((hend q (stepW_le hq).1).2 he)]
      · rw [if_neg he, if_neg fun hx => he ((hend q (stepW_le hq).1).1 hx)]
  · rw [if_neg h0, if_neg h0]
    simp only [wordV_at, Option.bind_map]
    cases hr : stepW s at_ with
    | none => rfl
    | some r =>
      simp only [Option.bind_some, Function.comp, wordV_at, Option.bind_map]
      cases hq : stepW s r.2 with
      | none => rfl
      | some q =>
        simp only [Option.bind_some, Function.comp, bytesOf_isP]
        by_cases he : q.2 = s.size
        · rw [if_pos he, if_pos ((hend q (stepW_le hq).1).2 he)]
        · rw [if_neg he, if_neg fun hx => he ((hend q (stepW_le hq).1).1 hx)]
end
/-- the lines that are left -/
structure LeftU (F : Nat) (s : ByteArray) (fr c : Nat) (st : RS) : Prop where
  go : fr < s.size ∨ c = 0 → ∃ f, s.size - fr < f ∧ linesV F ⟨0, [], []⟩ 0 s.data.toList = linesV f st c (s.data.toList.drop fr)
  done : ¬ (fr < s.size ∨ c = 0) → linesV F ⟨0, [], []⟩ 0 s.data.toList = .inl st
theorem drop_empty {s : ByteArray} {n : Nat} (h : s.size ≤ n) : s.data.toList.drop n = [] := List.drop_eq_nil_of_le (by rw [toList_eq]; exact h)
/-- a line is cut at its end -/
theorem line_is (s : ByteArray) (fr e : Nat) (h : fr + (cutA 10 (s.data.toList.drop fr)).length = e) : (s.extract fr e).data.toList = cutA 10 (s.data.toList.drop fr) := by
  rw [Lib.extract_data, ← h, Nat.add_sub_cancel_left]
  exact (List.prefix_iff_eq_take.1 (List.takeWhile_prefix _)).symm
theorem linesV_at (f : Nat) (st : RS) (c : Nat) (s : ByteArray) (fr e : Nat) (h : fr + (cutA 10 (s.data.toList.drop fr)).length = e) (he : e ≤ s.size) :
    linesV (f + 1) st c (s.data.toList.drop fr) = match takesV st (s.extract fr e).data.toList with
      | some st' => if e < s.size then (if e + 1 = s.size then .inl st' else linesV f st' (c + 1) (s.data.toList.drop (e + 1))) else .inr (c + 1)
      | none => .inr (c + 1) := by
  have e0 : linesV (f + 1) st c (s.data.toList.drop fr) = match takesV st (cutA 10 (s.data.toList.drop fr)), (s.data.toList.drop fr).drop (cutA 10 (s.data.toList.drop fr)).length with
    | some st', _ :: rest => if rest = [] then .inl st' else linesV f st' (c + 1) rest
    | _, _ => .inr (c + 1) := rfl
  rw [e0, line_is s fr e h, List.drop_drop, h]
  by_cases hlt : e < s.size
  · rw [drop_get' s e hlt]
    have hnil : s.data.toList.drop (e + 1) = [] ↔ e + 1 = s.size := by rw [List.drop_eq_nil_iff, toList_eq]; omega
    cases takesV st (cutA 10 (s.data.toList.drop fr)) with
    | none => rfl
    | some st' =>
      simp only
      rw [if_pos hlt]
      by_cases hx : e + 1 = s.size
      · rw [if_pos hx, if_pos (hnil.2 hx)]
      · rw [if_neg hx, if_neg fun hy => hx (hnil.1 hy)]
  · rw [drop_empty (n := e) (by omega)]
    cases takesV st (cutA 10 (s.data.toList.drop fr)) with
    | none => rfl
    | some st' => simp only; rw [if_neg hlt]
theorem LeftU.start (s : ByteArray) : LeftU (s.data.toList.length + 1) s 0 0 ⟨0, [], []⟩ := ⟨fun _ => ⟨s.data.toList.length + 1, by rw [toList_eq]; omega, by rw [List.drop_zero]⟩, fun h => absurd (.inr rfl) h⟩
/-- a line is refused -/
theorem LeftU.no {F : Nat} {s : ByteArray} {fr c e : Nat} {st : RS} (h : LeftU F s fr c st) (hgo : fr < s.size ∨ c = 0) (he : fr + (cutA 10 (s.data.toList.drop fr)).length = e) (hes : e ≤ s.size) (hno : takesV st (s.extract fr e).data.toList = none ∨ ¬ e < s.size) : linesV F ⟨0, [], []⟩ 0 s.data.toList = .inr (c + 1) := by
  obtain ⟨f, hf, hL⟩ := h.go hgo
  obtain ⟨f', rfl⟩ : ∃ f', f = f' + 1 := ⟨f - 1, by omega⟩
  rw [hL, linesV_at f' st c s fr e he hes]
  rcases hno with h1 | h1
  · rw [h1]
  · cases takesV st (s.extract fr e).data.toList with
    | none => rfl
    | some st' => simp only; rw [if_neg h1]
/-- a line is taken -/
theorem LeftU.next {F : Nat} {s : ByteArray} {fr c e : Nat} {st st' : RS} (h : LeftU F s fr c st) (hgo : fr < s.size ∨ c = 0) (he : fr + (cutA 10 (s.data.toList.drop fr)).length = e) (hes : e < s.size) (hyes : takesV st (s.extract fr e).data.toList = some st') : LeftU F s (e + 1) (c + 1) st' := by
  obtain ⟨f, hf, hL⟩ := h.go hgo
  obtain ⟨f', rfl⟩ : ∃ f', f = f' + 1 := ⟨f - 1, by omega⟩
  rw [linesV_at f' st c s fr e he (by omega), hyes] at hL
  simp only at hL
  rw [if_pos hes] at hL
  refine ⟨fun hx => ⟨f', by omega, ?_⟩, fun hx => ?_⟩
  · rw [hL, if_neg (by omega)]
  · rw [hL, if_pos (by omega)]
end Go.Proofs.YtjjlofaejpnnnaaGreatDoor
namespace Go.Proofs.YtjjlofaejpnnnaaGreatDoor
open Go Go.RowKit
set_option linter.unusedVariables false
theorem lt_ltS {a b : ByteArray} (h : a.data.toList < b.data.toList) : ltS a b = true := by
  unfold ltS
  rw [Go.Proofs.bytesLess_eq, decide_eq_true_eq, toList_data, toList_data]
  exact h
theorem propsB_snoc {p : ByteArray × ByteArray} (h1 : wordB p.1 = true) (h2 : p.2.size ≤ 4096) : ∀ {l : List (ByteArray × ByteArray)} {q : Option ByteArray}, propsB q l = true → (l = [] → aboveB q p.1 = true) → (∀ x ∈ l.getLast?, x.1.data.toList < p.1.data.toList) → propsB q (l ++ [p]) = true
  | [], q, _, h3, _ => by
    simp only [List.nil_append, propsB, h1, h3 rfl, Bool.and_true, Bool.true_and, decide_eq_true_eq]
    exact h2
  | [x], q, h, _, h4 => by
    simp only [propsB, Bool.and_true, Bool.and_eq_true] at h
    simp only [List.cons_append, List.nil_append, propsB, Bool.and_true, Bool.and_eq_true, decide_eq_true_eq]
    exact ⟨⟨⟨h.1.1, by simpa using h.1.2⟩, h.2⟩, ⟨h1, h2⟩, lt_ltS (h4 x (by simp))⟩
  | x :: y :: l, q, h, _, h4 => by
    rw [propsB, Bool.and_eq_true] at h
    rw [List.cons_append, propsB, Bool.and_eq_true]
    exact ⟨h.1, propsB_snoc h1 h2 (l := y :: l) h.2 (fun e => by cases e) fun z hz => h4 z (by simpa using hz)⟩
theorem refsB_snoc {next : Int} {p : ByteArray × Int} (h1 : wordB p.1 = true) (h2 : 1 ≤ p.2 ∧ p.2 < next) : ∀ {l : List (ByteArray × Int)} {q : Option ByteArray}, refsB next q l = true → (l = [] → aboveB q p.1 = true) → (∀ x ∈ l.getLast?, x.1.data.toList < p.1.data.toList) → refsB next q (l ++ [p]) = true
  | [], q, _, h3, _ => by
    simp only [List.nil_append, refsB, h1, h3 rfl, Bool.and_true, Bool.true_and, Bool.and_eq_true, decide_eq_true_eq]
    exact h2
  | [x], q, h, _, h4 => by
    simp only [refsB, Bool.and_true, Bool.and_eq_true] at h
    simp only [List.cons_append, List.nil_append, refsB, Bool.and_true, Bool.and_eq_true, decide_eq_true_eq]
    exact ⟨⟨⟨⟨h.1.1.1, by simpa using h.1.1.2⟩, by simpa using h.1.2⟩, h.2⟩, ⟨⟨h1, h2.1⟩, h2.2⟩, lt_ltS (h4 x (by simp))⟩
  | x :: y :: l, q, h, _, h4 => by
    rw [refsB, Bool.and_eq_true] at h
    rw [List.cons_append, refsB, Bool.and_eq_true]
    exact ⟨h.1, refsB_snoc h1 h2 (l := y :: l) h.2 (fun e => by cases e) fun z hz => h4 z (by simpa using hz)⟩
theorem bytesOf_size (l : List UInt8) : (bytesOf l).size = l.length := by
  show l.toArray.size = _
  rw [List.size_toArray]
theorem last_mem {st : RS} {nd : Nd} (hl : st.nds.getLast? = some nd) : nd ∈ st.nds := List.mem_of_getElem? (last_get hl).2
theorem has_tree {st st' : RS} {nd : Nd} {name v : List UInt8} (ht : RsTree st) (hl : st.nds.getLast? = some nd) (hw : wordL name = true) (h : hasV st nd name v = some st') : RsTree st' ∧ idsOf st' = idsOf st := by
  unfold hasV at h
  simp only at h
  split at h
  · rename_i hc
    obtain rfl := Option.some.inj h
    refine ⟨ht.last hl rfl rfl rfl rfl ?_, lastV_ids hl rfl⟩
    have hs := ht.sp nd (last_mem hl)
    exact ⟨hs.con, propsB_snoc (by unfold wordB; exact hw) (by rw [bytesOf_size]; exact hc.2.2.1) hs.props (fun _ => rfl) hc.2.2.2.2, hs.refs⟩
  · cases h
theorem refers_tree {st st' : RS} {nd : Nd} {name v : List UInt8} (ht : RsTree st) (hl : st.nds.getLast? = some nd) (hw : wordL name = true) (h : refersV st nd name v = some st') : RsTree st' ∧ idsOf st' = idsOf st := by
  unfold refersV at h
  cases hn : numberV v st.next with
  | none => rw [hn] at h; cases h
  | some y =>
    rw [hn] at h
    simp only at h
    split at h
    · rename_i hc
      obtain rfl := Option.some.inj h
      refine ⟨ht.last hl rfl rfl rfl rfl ?_, lastV_ids hl rfl⟩
      have hs := ht.sp nd (last_mem hl)
      exact ⟨hs.con, hs.props, refsB_snoc (by unfold wordB; exact hw) (numberV_some hn).2 hs.refs (fun _ => rfl) hc⟩
    · cases h
theorem stands_tree {st st' : RS} {n : Nd} {d : Nat} (hok : RsOk st) (ht : RsTree st) (h1 : n.par = 0) (h2 : n.kids = []) (h3 : d = 0 ∧ n.role.toList = [] ∨ d ≠ 0 ∧ wordB n.role = true) (hs : SpN st.next n) (h : standsV st n d = some st') : RsTree st' ∧ idsOf st' = idsOf st ++ [n.id] := by
  have hst := standsV_stood h
  refine ⟨?_, hst.ids⟩
  rw [standsV_is hok.dl hok.dk] at h
  split at h
  · cases h
  · rename_i hno
    obtain rfl := Option.some.inj h
    rcases h3 with ⟨rfl, h3⟩ | ⟨h0, h3⟩
    · have e : stoodV st n 0 = ⟨st.next, st.nds ++ [n], st.deep ++ [1]⟩ := by unfold stoodV; rw [if_pos rfl]
      rw [e]
      refine ht.root hok h1 h2 h3 hs ?_
      unfold noStand at hno
      have : ¬ n.id ≤ rootV st := fun hx => hno (.inr (.inr (.inr (.inr ⟨rfl, hx⟩))))
      omega
    · obtain ⟨i, nd, hsa⟩ := stood_at hok.dl hok.dk n (Nat.pos_of_ne_zero h0) hst.dle
      rw [hsa.is]
      exact ht.kid hok h2 h3 hs (Nat.pos_of_ne_zero h0) hst.dle hsa.up hsa.at_
section
variable {st st' : RS} {s : ByteArray} {d : Nat}
theorem stepW_out {p : Nat} {r : ByteArray × Nat} (h : stepW s p = some r) : wordB r.1 = true := by
  unfold stepW at h
  split at h
  · split at h
    · rename_i hc
      obtain rfl := Option.some.inj h
      exact hc.2
    · cases h
  · cases h
theorem nodeR_inv {id : Int} {p : Nat} (h : nodeR st s d id 0 ByteArray.empty ByteArray.empty p = some st') : ∃ role con, (d = 0 ∧ role.toList = [] ∨ d ≠ 0 ∧ wordB role = true) ∧ wordB con = true ∧ standsV st ⟨id, con, 0, role, [], [], []⟩ d = some st' := by
  rw [nodeR0] at h
  split at h
  · rename_i hd
    obtain ⟨q, hq, h⟩ := Option.bind_eq_some_iff.1 h
    split at h
    · exact ⟨_, _, .inl ⟨hd, by rw [toList_data]; rfl⟩, stepW_out hq, h⟩
    · cases h
  · rename_i hd
    obtain ⟨r, hr, h⟩ := Option.bind_eq_some_iff.1 h
    obtain ⟨q, hq, h⟩ := Option.bind_eq_some_iff.1 h
    split at h
    · exact ⟨_, _, .inr ⟨hd, stepW_out hr⟩, stepW_out hq, h⟩
    · cases h
/-- the number with which a line begins; 0: it begins with none -/
def toldN (l : List UInt8) : Int := (intT ((l.drop (blanksV l)).takeWhile isDg)).getD 0
theorem intT_nil : intT [] = none := by
  cases h : intT [] with
  | none => rfl
  | some v =>
    have := (intT_out h).1
    unfold Lib.itoa at this
    split at this
    · cases this
    · exact absurd this (dec_ne _)
theorem told_word {m : List UInt8} {v : Int} (h : intT (wordP m) = some v) (hv : 1 ≤ v) : m.takeWhile isDg = wordP m := by
  obtain ⟨w, r, hm, hw, _, _, hr⟩ := wordP_parts m
  rw [hw] at h ⊢
  have hi := (intT_out h).1
  have hall : w.all isDg = true := by
    rw [← hi]
    obtain ⟨u, rfl⟩ : ∃ u : Nat, v = (u : Int) := ⟨v.toNat, by omega⟩
    rw [itoa_of_nat]
    exact (dec_val u).2
  rw [hm, List.takeWhile_append_of_pos (List.all_eq_true.1 hall)]
  have : r.takeWhile isDg = [] := by
    rcases hr with rfl | ⟨t, rfl | rfl⟩
    · rfl
    · rw [List.takeWhile_cons, if_neg (by decide)]
    · rw [List.takeWhile_cons, if_neg (by decide)]
  rw [this, List.append_nil]
/-- a line that is not the first one: it tells a node, or none -/
theorem line_told (hok : RsOk st) (ht : RsTree st) (h0 : st.next ≠ 0) (h : takesV st s.data.toList = some st') :
    RsTree st' ∧ ((idsOf st' = idsOf st ++ [toldN s.data.toList] ∧ 1 ≤ toldN s.data.toList) ∨ (idsOf st' = idsOf st ∧ toldN s.data.toList = 0)) := by
  obtain ⟨d, hd⟩ : ∃ d, blanksV s.data.toList = d := ⟨_, rfl⟩
  have hle := blanksV_le s.data.toList
  rw [hd, toList_eq] at hle
  by_cases hlt : d < s.size
  · rw [takesV_sub h0 hd hlt] at h
    have e := drop_get' s d hlt
    split at h
    · rename_i hc
      have htz : toldN s.data.toList = 0 := by
        unfold toldN
        rw [hd, e, List.takeWhile_cons, if_neg (by
          have : s[d] = 46 ∨ s[d] = 62 := hc.imp (fun h => UInt8.toNat_inj.1 (by rw [h]; rfl)) (fun h => UInt8.toNat_inj.1 (by rw [h]; rfl))
          rcases this with h1 | h1 <;> rw [h1] <;> decide), intT_nil]
        rfl
      cases hl : st.nds.getLast? with
      | none => rw [hl] at h; cases h
      | some nd =>
        rw [hl] at h
        cases hx : s.data.toList.drop (d + 1 + (wordAt s (d + 1)).size) with
        | nil => rw [hx] at h; cases h
        | cons x v =>
          rw [hx] at h
          simp only at h
          split at h
          · rename_i hy
            split at h
            · obtain ⟨h1, h2⟩ := refers_tree ht hl hy.2.2 h
              exact ⟨h1, .inr ⟨h2, htz⟩⟩
            · obtain ⟨h1, h2⟩ := has_tree ht hl hy.2.2 h
              exact ⟨h1, .inr ⟨h2, htz⟩⟩
          · cases h
    · obtain ⟨id, hid, h⟩ := Option.bind_eq_some_iff.1 h
      rw [nodeV_is] at h
      obtain ⟨role, con, hr, hc, hs⟩ := nodeR_inv h
      obtain ⟨h1, h2⟩ := stands_tree hok ht rfl rfl hr ⟨hc, rfl, rfl⟩ hs
      rw [wordAt_is] at hid
      obtain ⟨hi, hi1, _⟩ := numberV_some hid
      have htl : toldN s.data.toList = id := by
        unfold toldN
        rw [hd, told_word hi hi1, hi]; rfl
      refine ⟨h1, .inl ⟨by rw [htl]; exact h2, by rw [htl]; exact hi1⟩⟩
  · exfalso
    have hb : takesV st s.data.toList = none := by
      unfold takesV
      rw [if_neg h0]
      simp only
      have : s.data.toList.drop (s.data.toList.takeWhile (· == 32)).length = [] := List.drop_eq_nil_of_le (by rw [toList_eq]; unfold blanksV at hd; omega)
      rw [this]
    rw [hb] at h; cases h
/-- the first line -/
theorem line_first (h0 : st.next = 0) (h : takesV st s.data.toList = some st') : st'.nds = [] ∧ RsTree st' := by
  unfold takesV at h
  rw [if_pos h0] at h
  split at h
  · obtain ⟨n, _, rfl⟩ := Option.map_eq_some_iff.1 h
    exact ⟨rfl, rsTree_nil n⟩
  · cases h
end
end Go.Proofs.YtjjlofaejpnnnaaGreatDoor

/-
  LINES THAT ARE PRINTED ARE READ, in plain mathematics: one by one.
  WHAT IS PRINTED IS READ BACK, in plain mathematics: node by node.
  WHAT IS PRINTED IS READ BACK, in plain mathematics: whole models.
  THE MODELS that awake reads and prints, computed by the kernel.
-/
import Derived.Test.YtjjlofaejpnnnaaGreatDoorZB19
namespace Go.Proofs.YtjjlofaejpnnnaaGreatDoor
open Go Go.RowKit
set_option linter.unusedVariables false
theorem wordP_end {w r : List UInt8} (hw : ∀ x ∈ w, x ≠ 32 ∧ x ≠ 61) (hr : r = [] ∨ ∃ v, r = 32 :: v ∨ r = 61 :: v) : wordP (w ++ r) = w := by
  unfold wordP
  rw [List.takeWhile_append_of_pos (fun x hx => by have := hw x hx; simp [this.1, this.2])]
  have : r.takeWhile (fun c => c != 32 && c != 61) = [] := by
    rcases hr with rfl | ⟨v, rfl | rfl⟩
    · rfl
    · rw [List.takeWhile_cons, if_neg (by decide)]
    · rw [List.takeWhile_cons, if_neg (by decide)]
  rw [this, List.append_nil]
theorem isDg_ne {c : UInt8} (h : isDg c = true) : c ≠ 32 ∧ c ≠ 61 ∧ c ≠ 46 ∧ c ≠ 62 ∧ c ≠ 10 := by
  refine ⟨?_, ?_, ?_, ?_, ?_⟩ <;> rintro rfl <;> exact absurd h (by decide)
theorem itoa_all {n : Int} (h : 1 ≤ n) : (∀ x ∈ Lib.itoa n, isDg x = true) ∧ Lib.itoa n ≠ [] := by
  obtain ⟨u, rfl⟩ : ∃ u : Nat, n = (u : Int) := ⟨n.toNat, by omega⟩
  rw [itoa_of_nat]
  exact ⟨List.all_eq_true.1 (dec_val u).2, dec_ne u⟩
theorem form_no10 (c : UInt8) : ∀ x ∈ form c, x ≠ 10 := by
  have key : ∀ n : Fin 256, (form (UInt8.ofNat n.val)).all (fun x => x != 10) = true := by decide +kernel
  have h := key ⟨c.toNat, c.toNat_lt⟩
  simp only [UInt8.ofNat_toNat] at h
  intro x hx
  have := List.all_eq_true.1 h x hx
  simpa using this
theorem quote_no10 (l : List UInt8) : ∀ x ∈ quote l, x ≠ 10 := by
  intro x hx
  unfold quote at hx
  rcases List.mem_append.1 hx with hx | hx
  · rcases List.mem_cons.1 hx with rfl | hx
    · decide
    · obtain ⟨c, _, hx⟩ := List.mem_flatMap.1 hx
      exact form_no10 c x hx
  · obtain rfl : x = 34 := by simpa using hx
    decide
def readL : RS → List (List UInt8) → Option RS
  | st, [] => some st
  | st, l :: ls => (takesV st l).bind fun st' => readL st' ls
theorem readL_app : ∀ (st : RS) (a b : List (List UInt8)), readL st (a ++ b) = (readL st a).bind fun st' => readL st' b
  | st, [], b => rfl
  | st, l :: a, b => by
    show (takesV st l).bind _ = ((takesV st l).bind _).bind _
    cases takesV st l with
    | none => rfl
    | some st' => exact readL_app st' a b
theorem lines_read : ∀ (ls : List (List UInt8)) (st : RS) (f c : Nat) (fin : RS), ls ≠ [] → (∀ l ∈ ls, ∀ x ∈ l, x ≠ 10) → readL st ls = some fin → ((ls.map (· ++ [10])).flatten).length < f → linesV f st c ((ls.map (· ++ [10])).flatten) = .inl fin
  | [], _, _, _, _, h, _, _, _ => absurd rfl h
  | l :: ls, st, f, c, fin, _, hno, hr, hf => by
    obtain ⟨f', rfl⟩ : ∃ f', f = f' + 1 := ⟨f - 1, by omega⟩
    obtain ⟨st', ht, hr⟩ := Option.bind_eq_some_iff.1 hr
    have e : ((l :: ls).map (· ++ [10])).flatten = l ++ 10 :: (ls.map (· ++ [10])).flatten := by simp
    rw [e] at hf ⊢
    have hc := (cut_at (c := 10) (a := l) (b := (ls.map (· ++ [10])).flatten) fun x hx => hno l (by simp) x hx).1
    show (match takesV st (cutA 10 (l ++ 10 :: (ls.map (· ++ [10])).flatten)), (l ++ 10 :: (ls.map (· ++ [10])).flatten).drop (cutA 10 (l ++ 10 :: (ls.map (· ++ [10])).flatten)).length with
      | some st', _ :: rest => if rest = [] then (Sum.inl st' : RS ⊕ Nat) else linesV f' st' (c + 1) rest
      | _, _ => Sum.inr (c + 1)) = _
    rw [hc, ht, List.drop_left]
    simp only
    cases ls with
    | nil =>
      simp only [List.map_nil, List.flatten_nil, if_true]
      exact congrArg Sum.inl (Option.some.inj hr)
    | cons l2 r =>
      rw [if_neg (by simp)]
      exact lines_read (l2 :: r) st' f' (c + 1) fin (by simp) (fun x hx => hno x (by simp [hx])) hr (by simp only [List.length_append, List.length_cons] at hf ⊢; omega)
section
variable {st : RS} {nd : Nd} {d : Nat}
theorem bl_take {r : List UInt8} (d : Nat) (h : ∀ x ∈ r.head?, x ≠ 32) : (bl d ++ r).takeWhile (· == 32) = bl d := by
  unfold bl
  rw [List.takeWhile_append_of_pos (fun x hx => by simp [(List.mem_replicate.1 hx).2])]
  cases r with
  | nil => simp
  | cons x r => rw [List.takeWhile_cons, if_neg (by have := h x (by simp); simpa using this), List.append_nil]
theorem wordV_yes {w r : List UInt8} (hw : wordL w = true) (hr : r = [] ∨ ∃ v, r = 32 :: v ∨ r = 61 :: v) : wordV (32 :: (w ++ r)) = some (w, r) := by
  have h1 := wordP_end (fun x hx => ⟨(wordL_ne hw x hx).1, (wordL_ne hw x hx).2.1⟩) hr
  show (if (32 : UInt8) = 32 ∧ wordL (wordP (w ++ r)) = true then some (wordP (w ++ r), (w ++ r).drop (wordP (w ++ r)).length) else none) = _
  rw [h1, if_pos ⟨rfl, hw⟩, List.drop_left]
/-- a node's line -/
theorem node_line {id : Int} {con role : ByteArray} (h0 : st.next ≠ 0) (hid : 1 ≤ id ∧ id < st.next) (hn : st.next ≤ 1048577) (hc : wordB con = true) (hr : d = 0 ∧ role = ByteArray.empty ∨ d ≠ 0 ∧ wordB role = true) :
    takesV st (bl d ++ (Lib.itoa id ++ 32 :: ((if d = 0 then [] else role.data.toList ++ [32]) ++ con.data.toList))) = standsV st ⟨id, con, 0, role, [], [], []⟩ d := by
  obtain ⟨ha, hne⟩ := itoa_all hid.1
  obtain ⟨c, t, hct⟩ : ∃ c t, Lib.itoa id = c :: t := by
    cases h : Lib.itoa id with
    | nil => exact absurd h hne
    | cons c t => exact ⟨c, t, rfl⟩
  have hcd := isDg_ne (ha c (by rw [hct]; simp))
  have hwn := wordP_end (w := Lib.itoa id) (r := 32 :: ((if d = 0 then [] else role.data.toList ++ [32]) ++ con.data.toList)) (fun x hx => ⟨(isDg_ne (ha x hx)).1, (isDg_ne (ha x hx)).2.1⟩) (.inr ⟨_, .inl rfl⟩)
  have hnum : numberV (Lib.itoa id) st.next = some id := by
    unfold numberV
    rw [intT_show id (by omega) (by omega)]
    simp only
    rw [if_pos hid]
  have hb := bl_take (r := Lib.itoa id ++ 32 :: ((if d = 0 then [] else role.data.toList ++ [32]) ++ con.data.toList)) d (fun x hx => by
    rw [hct] at hx
    obtain rfl : c = x := by simpa using hx
    exact hcd.1)
  unfold takesV
  rw [if_neg h0]
  simp only [hb, bl_len]
  have hdd : (bl d ++ (Lib.itoa id ++ 32 :: ((if d = 0 then [] else role.data.toList ++ [32]) ++ con.data.toList))).drop d = Lib.itoa id ++ 32 :: ((if d = 0 then [] else role.data.toList ++ [32]) ++ con.data.toList) := by
    have := List.drop_left (l₁ := bl d) (l₂ := Lib.itoa id ++ 32 :: ((if d = 0 then [] else role.data.toList ++ [32]) ++ con.data.toList))
    rwa [bl_len] at this
  rw [hdd]
  clear hdd hb
  generalize hR : Lib.itoa id ++ 32 :: ((if d = 0 then [] else role.data.toList ++ [32]) ++ con.data.toList) = R at hwn
  obtain ⟨t2, ht2⟩ : ∃ t2, R = c :: t2 := ⟨t ++ 32 :: ((if d = 0 then [] else role.data.toList ++ [32]) ++ con.data.toList), by rw [← hR, hct]; rfl⟩
  rw [ht2] at hwn ⊢
  simp only
  rw [if_neg (fun h => h.elim hcd.2.2.1 hcd.2.2.2.1), hwn, hnum, Option.bind_some]
  have hdr : (c :: t2).drop (Lib.itoa id).length = 32 :: ((if d = 0 then [] else role.data.toList ++ [32]) ++ con.data.toList) := by
    rw [← ht2, ← hR, List.drop_left]
  rw [hdr]
  have hw2 : wordV (32 :: con.data.toList) = some (con.data.toList, []) := by
    have := wordV_yes (w := con.data.toList) (r := []) hc (.inl rfl)
    rwa [List.append_nil] at this
  unfold nodeV
  rcases hr with ⟨rfl, rfl⟩ | ⟨hd, hr⟩
  · rw [if_pos rfl, if_pos rfl, List.nil_append, Option.bind_some, hw2, Option.bind_some, if_pos rfl, bytesOf_isP]
    rfl
  · have hw1 : wordV (32 :: (role.data.toList ++ [32] ++ con.data.toList)) = some (role.data.toList, 32 :: con.data.toList) := by
      rw [List.append_assoc]
      exact wordV_yes hr (.inr ⟨_, .inl rfl⟩)
    rw [if_neg hd, if_neg hd, hw1, Option.bind_some, hw2, Option.bind_some, if_pos rfl, bytesOf_isP, bytesOf_isP]
/-- a property's or a reference's line -/
theorem sub_line {c : UInt8} {name v : List UInt8} (h0 : st.next ≠ 0) (hc : c = 46 ∨ c = 62) (hl : st.nds.getLast? = some nd) (hd : d = st.deep.getLastD 0) (hw : wordL name = true) :
    takesV st (bl d ++ (c :: (name ++ 61 :: v))) = if c = 62 then refersV st nd name v else hasV st nd name v := by
  have hb := bl_take (r := c :: (name ++ 61 :: v)) d (fun x hx => by
    obtain rfl : c = x := by simpa using hx
    rcases hc with rfl | rfl <;> decide)
  have hwn := wordP_end (w := name) (r := 61 :: v) (fun x hx => ⟨(wordL_ne hw x hx).1, (wordL_ne hw x hx).2.1⟩) (.inr ⟨_, .inr rfl⟩)
  unfold takesV
  rw [if_neg h0]
  simp only [hb, bl_len]
  rw [show (bl d ++ (c :: (name ++ 61 :: v))).drop d = c :: (name ++ 61 :: v) from by
    have := List.drop_left (l₁ := bl d) (l₂ := c :: (name ++ 61 :: v))
    rwa [bl_len] at this]
  simp only
  rw [if_pos hc, hl, hwn, List.drop_left]
  simp only
  rw [if_pos ⟨hd, trivial, hw⟩]
theorem unq_back (V : List UInt8) : unq (bytesOf (quote V)) 0 = (V, ((quote V).length : Int), 0) := by
  have h : (bytesOf (quote V)).data.toList.drop 0 = 34 :: (V.flatMap form ++ 34 :: []) := by
    rw [bytesOf_list, List.drop_zero]
    unfold quote
    simp
  have hu := unq_quote (t := 0) h
  rw [scanL_back V []] at hu
  simp only at hu
  have e : ((0 : Nat) : Int) = 0 := rfl
  rw [e] at hu
  rw [hu]
  have hl : (quote V).length = 0 + 1 + ((V.flatMap form).length + 1) := by
    unfold quote
    rw [List.length_append, List.length_cons]
    simp
    omega
  rw [hl]
theorem prop_line {p : ByteArray × ByteArray} (h0 : st.next ≠ 0) (hl : st.nds.getLast? = some nd) (hd : d = st.deep.getLastD 0) (hw : wordB p.1 = true) (hv : p.2.size ≤ 4096) (hr : nd.refs = []) (hs : ∀ x ∈ nd.props.getLast?, x.1.data.toList < p.1.data.toList) :
    takesV st (bl d ++ (46 :: (p.1.data.toList ++ 61 :: quote p.2.data.toList))) = some (lastV st { nd with props := nd.props ++ [p] }) := by
  rw [sub_line h0 (.inl rfl) hl hd hw, if_neg (by decide)]
  unfold hasV
  rw [unq_back]
  simp only
  rw [if_pos ⟨trivial, trivial, by rw [toList_eq]; exact hv, hr, hs⟩, bytesOf_isP, bytesOf_isP]
theorem ref_line {r : ByteArray × Int} (h0 : st.next ≠ 0) (hn : st.next ≤ 1048577) (hl : st.nds.getLast? = some nd) (hd : d = st.deep.getLastD 0) (hw : wordB r.1 = true) (hv : 1 ≤ r.2 ∧ r.2 < st.next) (hs : ∀ x ∈ nd.refs.getLast?, x.1.data.toList < r.1.data.toList) :
    takesV st (bl d ++ (62 :: (r.1.data.toList ++ 61 :: Lib.itoa r.2))) = some (lastV st { nd with refs := nd.refs ++ [r] }) := by
  rw [sub_line h0 (.inr rfl) hl hd hw, if_pos rfl]
  have hnum : numberV (Lib.itoa r.2) st.next = some r.2 := by
    unfold numberV
    rw [intT_show r.2 (by omega) (by omega)]
    simp only
    rw [if_pos hv]
  unfold refersV
  rw [hnum]
  simp only
  rw [if_pos hs, bytesOf_isP]
theorem first_line {n : Int} (hn : 1 ≤ n ∧ n ≤ 1048577) (h0 : st.next = 0) : takesV st ([110, 101, 120, 116, 32] ++ Lib.itoa n) = some ⟨n, [], []⟩ := by
  have hne := (itoa_all hn.1).2
  unfold takesV
  rw [if_pos h0, if_pos ⟨by
    have : 0 < (Lib.itoa n).length := List.length_pos_iff.2 hne
    rw [List.length_append]
    show 5 < 5 + (Lib.itoa n).length
    omega, rfl⟩]
  have e : ([110, 101, 120, 116, 32] ++ Lib.itoa n).drop 5 = Lib.itoa n := rfl
  rw [e]
  have hnum : numberV (Lib.itoa n) 1048578 = some n := by
    unfold numberV
    rw [intT_show n (by omega) (by omega)]
    simp only
    rw [if_pos (by omega)]
  rw [hnum]
  rfl
end
end Go.Proofs.YtjjlofaejpnnnaaGreatDoor
namespace Go.Proofs.YtjjlofaejpnnnaaGreatDoor
open Go Go.RowKit
set_option linter.unusedVariables false
def teP (p : Nd × Nat) : TE := (p.1.id, p.2, p.1.par)
/-- the nodes read so far: each has the kids that stand here, or in what follows -/
def cutS : List (Nd × Nat) → List TE → List Nd
  | [], _ => []
  | p :: t, s => { p.1 with kids := (FT p.2 (t.map teP ++ s)).map (·.1) } :: cutS t s
def cutK (A : List (Nd × Nat)) : List Nd := cutS A []
theorem cutS_app : ∀ (A B : List (Nd × Nat)) (s : List TE), cutS (A ++ B) s = cutS A (B.map teP ++ s) ++ cutS B s
  | [], B, s => rfl
  | p :: A, B, s => by
    show ({ p.1 with kids := (FT p.2 ((A ++ B).map teP ++ s)).map (·.1) } : Nd) :: cutS (A ++ B) s = ({ p.1 with kids := (FT p.2 (A.map teP ++ (B.map teP ++ s))).map (·.1) } : Nd) :: (cutS A (B.map teP ++ s) ++ cutS B s)
    rw [cutS_app A B s, List.map_append, List.append_assoc]
theorem cutS_len : ∀ (A : List (Nd × Nat)) (s : List TE), (cutS A s).length = A.length
  | [], _ => rfl
  | p :: A, s => by show (cutS A s).length + 1 = _; rw [cutS_len A s]; rfl
theorem cutS_ids : ∀ (A : List (Nd × Nat)) (s : List TE), (cutS A s).map (·.id) = A.map (·.1.id)
  | [], _ => rfl
  | p :: A, s => by show p.1.id :: (cutS A s).map (·.id) = _; rw [cutS_ids A s]; rfl
theorem cutK_snoc (A : List (Nd × Nat)) (x : Nd × Nat) : cutK (A ++ [x]) = cutS A [teP x] ++ [{ x.1 with kids := [] }] := by
  unfold cutK
  rw [cutS_app]
  rfl
theorem cutK_all : ∀ {A : List (Nd × Nat)}, WFE (A.map entP) → cutK A = A.map (·.1)
  | [], _ => rfl
  | p :: A, h => by
    have ih := cutK_all (A := A) h.2.2
    have h1 : p.1.kids = (FT p.2 ((A.map entP).map (·.1))).map (·.1) := h.1
    rw [List.map_map] at h1
    show ({ p.1 with kids := (FT p.2 (A.map teP ++ [])).map (·.1) } : Nd) :: cutK A = p.1 :: A.map (·.1)
    rw [ih, List.append_nil, show A.map teP = A.map ((fun x => x.1) ∘ entP) from rfl, ← h1]
theorem cutS_low {x : Nd × Nat} : ∀ {Z : List (Nd × Nat)}, (∀ z ∈ Z, x.2 ≤ z.2) → cutS Z [teP x] = cutS Z []
  | [], _ => rfl
  | z :: Z, h => by
    show _ :: cutS Z [teP x] = _ :: cutS Z []
    rw [cutS_low fun y hy => h y (by simp [hy]), FT_snoc_ne (by have := h z (by simp); show x.2 ≠ z.2 + 1; omega), List.append_nil]
theorem cutS_add {p x : Nd × Nat} (hx : x.2 = p.2 + 1) {Z : List (Nd × Nat)} (hZ : ∀ z ∈ Z, p.2 < z.2) : ∀ A : List (Nd × Nat), ∃ nd, (cutS (A ++ p :: Z) [])[A.length]? = some nd ∧ nd.id = p.1.id ∧ cutS (A ++ p :: Z) [teP x] = (cutS (A ++ p :: Z) []).set A.length { nd with kids := nd.kids ++ [x.1.id] }
  | [] => by
    refine ⟨{ p.1 with kids := (FT p.2 (Z.map teP ++ [])).map (·.1) }, rfl, rfl, ?_⟩
    show ({ p.1 with kids := (FT p.2 (Z.map teP ++ [teP x])).map (·.1) } : Nd) :: cutS Z [teP x] = { p.1 with kids := (FT p.2 (Z.map teP ++ [])).map (·.1) ++ [x.1.id] } :: cutS Z []
    have hz : ∀ y ∈ Z.map teP, p.2 < y.2.1 := fun y hy => by obtain ⟨z, hz, rfl⟩ := List.mem_map.1 hy; exact hZ z hz
    rw [cutS_low fun z hz => by have := hZ z hz; omega, FT_snoc_in hz hx, List.append_nil, List.map_append]
    rfl
  | e :: A => by
    obtain ⟨nd, h1, h2, h3⟩ := cutS_add hx hZ A
    refine ⟨nd, h1, h2, ?_⟩
    have eF : FT e.2 ((A ++ p :: Z).map teP ++ [teP x]) = FT e.2 ((A ++ p :: Z).map teP) := by
      by_cases hd : x.2 = e.2 + 1
      · exact FT_snoc_out ⟨teP p, by simp, by show ¬ e.2 < p.2; omega⟩
      · exact FT_snoc_ne hd
    show ({ e.1 with kids := (FT e.2 ((A ++ p :: Z).map teP ++ [teP x])).map (·.1) } : Nd) :: cutS (A ++ p :: Z) [teP x] = ({ e.1 with kids := (FT e.2 ((A ++ p :: Z).map teP ++ [])).map (·.1) } : Nd) :: (cutS (A ++ p :: Z) []).set A.length _
    rw [h3, eF, List.append_nil]
def stA (next : Int) (A : List (Nd × Nat)) : RS := ⟨next, cutK A, A.map (·.2)⟩
theorem stA_ids (next : Int) (A : List (Nd × Nat)) : idsOf (stA next A) = A.map (·.1.id) := cutS_ids A []
theorem stA_len (next : Int) (A : List (Nd × Nat)) : (stA next A).nds.length = A.length := cutS_len A []
theorem stA_last (next : Int) (A : List (Nd × Nat)) (x : Nd × Nat) : (stA next (A ++ [x])).nds.getLast? = some { x.1 with kids := [] } ∧ (stA next (A ++ [x])).deep.getLastD 0 = x.2 := by
  unfold stA
  rw [cutK_snoc]
  simp [List.getLastD_eq_getLast?]
/-- the last node has a word more -/
theorem stA_turn (next : Int) (A : List (Nd × Nat)) (x y : Nd × Nat) (h : teP y = teP x) : lastV (stA next (A ++ [x])) { y.1 with kids := [] } = stA next (A ++ [y]) := by
  have hd : y.2 = x.2 := congrArg (·.2.1) h
  unfold lastV stA
  rw [cutK_snoc, cutK_snoc, h, List.map_append, List.map_append, List.map_singleton, List.map_singleton, hd]
  simp
/-- what a right model's nodes in document order are -/
structure Listed (next : Int) (N : List Nd) (E : List (Nd × Nat)) : Prop where
  lo : 1 ≤ next
  hi : next ≤ 1048577
  len : E.length ≤ 4096
  wf : WFE (E.map entP)
  step : StepT (E.map teP)
  head : ∀ p ∈ E.head?, p.2 = 1
  nod : (E.map (·.1.id)).Nodup
  lv : ∀ p ∈ E, 1 ≤ p.2 ∧ p.2 ≤ 64
  ids : ∀ p ∈ E, 1 ≤ p.1.id ∧ p.1.id < next
  sp : ∀ p ∈ E, SpN next p.1
  par : ∀ p ∈ E, (p.2 = 1 ∧ p.1.par = 0 ∧ p.1.role = ByteArray.empty) ∨ (p.2 ≠ 1 ∧ p.1.par ≠ 0 ∧ wordB p.1.role = true)
  roots : (E.filter fun p => p.2 == 1).Pairwise fun a b => a.1.id < b.1.id
section
variable {next : Int} {N : List Nd} {E A R : List (Nd × Nat)} {q : Nd × Nat}
theorem root_lt (h : Listed next N E) (hE : E = A ++ q :: R) (hq : q.2 = 1) : rootV (stA next A) < q.1.id := by
  have hid := (h.ids q (by rw [hE]; simp)).1
  unfold rootV rootI
  cases hl : lastIx (stA next A).deep 1 with
  | none => simp only; omega
  | some i =>
    simp only
    obtain ⟨hi, hd⟩ := lastIx_some hl
    have hiA : i < A.length := by
      have : (stA next A).deep.length = A.length := List.length_map ..
      omega
    have hp : A[i]? = some A[i] := List.getElem?_eq_getElem hiA
    have hp1 : A[i].2 = 1 := by
      rw [List.getD_eq_getElem?_getD] at hd
      unfold stA at hd
      rw [List.getElem?_map, hp] at hd
      simpa using hd
    have hx : ((stA next A).nds.map (·.id))[i]? = some A[i].1.id := by
      have := stA_ids next A
      unfold idsOf at this
      rw [this, List.getElem?_map, hp]; rfl
    rw [hx]
    show A[i].1.id < q.1.id
    have hr := h.roots
    rw [hE, List.filter_append, List.pairwise_append] at hr
    refine hr.2.2 A[i] (List.mem_filter.2 ⟨List.getElem_mem hiA, by simpa using hp1⟩) q (List.mem_filter.2 ⟨by simp, by simpa using hq⟩)
/-- the next node stands -/
theorem stands_next (h : Listed next N E) (hE : E = A ++ q :: R) (hok : RsOk (stA next A)) :
    standsV (stA next A) ⟨q.1.id, q.1.con, 0, q.1.role, [], [], []⟩ (q.2 - 1) = some (stA next (A ++ [({ q.1 with props := [], refs := [] }, q.2)])) := by
  have hqm : q ∈ E := by rw [hE]; simp
  have hlv := h.lv q hqm
  have hst : StepT (A.map teP ++ teP q :: R.map teP) := by have := h.step; rw [hE] at this; simpa using this
  have hlastD : q.2 - 1 ≤ (stA next A).deep.getLastD 0 := by
    rcases List.eq_nil_or_concat A with rfl | ⟨A', y, rfl⟩
    · have := h.head q (by rw [hE]; rfl)
      omega
    · rw [List.concat_eq_append] at hst ⊢
      rw [(stA_last next A' y).2]
      rw [List.map_append, List.append_assoc] at hst
      have := (StepT.right hst).1 (teP q) (by simp)
      have h2 : q.2 ≤ y.2 + 1 := this
      omega
  have hno : ¬ noStand (stA next A) q.1.id (q.2 - 1) := by
    unfold noStand
    rw [stA_len, stA_ids]
    rintro (h1 | h1 | h1 | h1 | h1)
    · have := h.len
      rw [hE, List.length_append, List.length_cons] at this
      omega
    · omega
    · omega
    · have hn := h.nod
      rw [hE, List.map_append, List.map_cons, List.nodup_append] at hn
      exact hn.2.2 _ h1 q.1.id (by simp) rfl
    · have := root_lt h hE (by omega)
      omega
  rw [standsV_is hok.dl hok.dk, if_neg hno]
  congr 1
  have hxk : cutK (A ++ [(({ q.1 with props := [], refs := [] } : Nd), q.2)]) = cutS A [teP q] ++ [({ q.1 with props := [], refs := [], kids := [] } : Nd)] := cutK_snoc A _
  rcases h.par q hqm with ⟨h1, h2, h3⟩ | ⟨h1, h2, h3⟩
  · unfold stoodV
    rw [if_pos (by omega)]
    have hlow : cutS A [teP q] = cutS A [] := cutS_low fun z hz => by
      have := (h.lv z (by rw [hE]; simp [hz])).1
      omega
    show (⟨next, cutK A ++ _, A.map (·.2) ++ [1]⟩ : RS) = ⟨next, cutK _, List.map (fun p : Nd × Nat => p.2) _⟩
    rw [hxk, hlow, List.map_append, List.map_singleton, h1]
    show _ = (⟨next, cutK A ++ [⟨q.1.id, q.1.con, q.1.par, q.1.role, [], [], []⟩], _⟩ : RS)
    rw [h2]
  · have hd0 : 0 < q.2 - 1 := by omega
    obtain ⟨i, nd, hs⟩ := stood_at hok.dl hok.dk ⟨q.1.id, q.1.con, 0, q.1.role, [], [], []⟩ hd0 hlastD
    obtain ⟨hil, hid⟩ := lastIx_some hs.up
    have hiA : i < A.length := by
      have : (stA next A).deep.length = A.length := List.length_map ..
      omega
    have eA : A = A.take i ++ A[i] :: A.drop (i + 1) := by
      conv => lhs; rw [← List.take_append_drop i A]
      rw [List.drop_eq_getElem_cons hiA]
    have hpd : A[i].2 = q.2 - 1 := by
      rw [List.getD_eq_getElem?_getD] at hid
      unfold stA at hid
      rw [List.getElem?_map, List.getElem?_eq_getElem hiA] at hid
      simpa using hid
    have hZ : ∀ z ∈ A.drop (i + 1), A[i].2 < z.2 := by
      have hst2 : StepT ((A.drop (i + 1)).map teP) := by
        have h1 : StepT (A.map teP) := by
          have key : ∀ (X Y : List TE), StepT (X ++ Y) → StepT X := by
            intro X
            induction X with
            | nil => intro Y _; trivial
            | cons a X ih =>
              intro Y hY
              refine ⟨fun x hx => hY.1 x ?_, ih Y hY.2⟩
              cases X with
              | nil => cases hx
              | cons b X => exact hx
          exact key _ _ hst
        rw [eA, List.map_append, List.map_cons] at h1
        exact (StepT.right h1).2
      have key := deeper (d := A[i].2) hst2 (fun z hz => ?_) (fun x hx => ?_)
      · intro z hz
        exact key (teP z) (List.mem_map_of_mem hz)
      · obtain ⟨y, hy, rfl⟩ := List.mem_map.1 hz
        obtain ⟨j, hj⟩ := List.getElem?_of_mem hy
        rw [List.getElem?_drop] at hj
        rw [hpd]
        exact lastIx_last hs.up (i + 1 + j) (by omega) y.2 (by unfold stA; rw [List.getElem?_map, hj]; rfl)
      · rw [List.getLast?_map] at hx
        obtain ⟨y, hy, rfl⟩ := Option.map_eq_some_iff.1 hx
        have e2 : (stA next A).deep.getLastD 0 = y.2 := by
          rw [List.getLast?_eq_getElem?, List.getElem?_drop, List.length_drop] at hy
          have hyl := (List.getElem?_eq_some_iff.1 hy).1
          unfold stA
          rw [List.getLastD_eq_getLast?, List.getLast?_eq_getElem?, List.length_map, List.getElem?_map, show A.length - 1 = i + 1 + (A.length - (i + 1) - 1) from by omega, hy]
          rfl
        show A[i].2 ≤ y.2
        rw [hpd]; omega
    have hpar : q.1.par = A[i].1.id := by
      have hw := h.wf
      rw [hE] at hw
      conv at hw => rw [eA]
      rw [List.append_assoc, List.map_append, List.cons_append, List.map_cons] at hw
      have h2 := (WFE.right hw).2.1 (teP q) ?_
      · exact h2
      · have hz : ∀ y ∈ (A.drop (i + 1)).map teP, A[i].2 < y.2.1 := fun y hy => by obtain ⟨z, hz, rfl⟩ := List.mem_map.1 hy; exact hZ z hz
        have e3 : ((A.drop (i + 1) ++ q :: R).map entP).map (·.1) = (A.drop (i + 1)).map teP ++ teP q :: R.map teP := by
          rw [List.map_map, List.map_append, List.map_cons]; rfl
        show teP q ∈ FT A[i].2 (((A.drop (i + 1) ++ q :: R).map entP).map (·.1))
        rw [e3]
        unfold FT
        rw [segT_app_in hz, segT_cons_in (by show A[i].2 < q.2; omega)]
        refine List.mem_filter.2 ⟨by simp, ?_⟩
        show (q.2 == A[i].2 + 1) = true
        simp; omega
    obtain ⟨nd2, a1, a2, a3⟩ := cutS_add (p := A[i]) (x := q) (by omega) hZ (A.take i)
    rw [← eA] at a1 a3
    have hti : (A.take i).length = i := by rw [List.length_take]; omega
    rw [hti] at a1 a3
    have hat : (cutS A [])[i]? = some nd := hs.at_
    rw [a1] at hat
    obtain rfl := Option.some.inj hat
    rw [hs.is]
    show (⟨next, (cutS A []).set i _ ++ _, A.map (·.2) ++ [q.2 - 1 + 1]⟩ : RS) = ⟨next, cutK _, List.map (fun p : Nd × Nat => p.2) _⟩
    rw [hxk, a3, List.map_append, List.map_singleton, show q.2 - 1 + 1 = q.2 from by omega, a2, ← hpar]
end
end Go.Proofs.YtjjlofaejpnnnaaGreatDoor
namespace Go.Proofs.YtjjlofaejpnnnaaGreatDoor
open Go Go.RowKit
set_option linter.unusedVariables false
theorem ltS_lt {a b : ByteArray} (h : ltS a b = true) : a.data.toList < b.data.toList := by
  unfold ltS at h
  rw [Go.Proofs.bytesLess_eq, decide_eq_true_eq, toList_data, toList_data] at h
  exact h
theorem propsB_mid {p : ByteArray × ByteArray} {l2 : List (ByteArray × ByteArray)} : ∀ {l1 : List (ByteArray × ByteArray)} {q : Option ByteArray}, propsB q (l1 ++ p :: l2) = true → wordB p.1 = true ∧ p.2.size ≤ 4096 ∧ ∀ x ∈ l1.getLast?, x.1.data.toList < p.1.data.toList
  | [], q, h => by
    simp only [List.nil_append, propsB, Bool.and_eq_true, decide_eq_true_eq] at h
    exact ⟨h.1.1.1, h.1.1.2, fun x hx => by cases hx⟩
  | [x], q, h => by
    simp only [List.cons_append, List.nil_append, propsB, Bool.and_eq_true, decide_eq_true_eq] at h
    refine ⟨h.2.1.1.1, h.2.1.1.2, fun y hy => ?_⟩
    obtain rfl : x = y := by simpa using hy
    exact ltS_lt h.2.1.2
  | x :: y :: l1, q, h => by
    rw [List.cons_append, propsB, Bool.and_eq_true] at h
    obtain ⟨h1, h2, h3⟩ := propsB_mid (l1 := y :: l1) h.2
    exact ⟨h1, h2, fun z hz => h3 z (by simpa using hz)⟩
theorem refsB_mid {next : Int} {p : ByteArray × Int} {l2 : List (ByteArray × Int)} : ∀ {l1 : List (ByteArray × Int)} {q : Option ByteArray}, refsB next q (l1 ++ p :: l2) = true → wordB p.1 = true ∧ (1 ≤ p.2 ∧ p.2 < next) ∧ ∀ x ∈ l1.getLast?, x.1.data.toList < p.1.data.toList
  | [], q, h => by
    simp only [List.nil_append, refsB, Bool.and_eq_true, decide_eq_true_eq] at h
    exact ⟨h.1.1.1.1, ⟨h.1.1.1.2, h.1.1.2⟩, fun x hx => by cases hx⟩
  | [x], q, h => by
    simp only [List.cons_append, List.nil_append, refsB, Bool.and_eq_true, decide_eq_true_eq] at h
    refine ⟨h.2.1.1.1.1, ⟨h.2.1.1.1.2, h.2.1.1.2⟩, fun y hy => ?_⟩
    obtain rfl : x = y := by simpa using hy
    exact ltS_lt h.2.1.2
  | x :: y :: l1, q, h => by
    rw [List.cons_append, refsB, Bool.and_eq_true] at h
    obtain ⟨h1, h2, h3⟩ := refsB_mid (l1 := y :: l1) h.2
    exact ⟨h1, h2, fun z hz => h3 z (by simpa using hz)⟩
def coreN (nd : Nd) (D : Nat) : List UInt8 := bl (D - 1) ++ (Lib.itoa nd.id ++ 32 :: ((if nd.par = 0 then [] else nd.role.data.toList ++ [32]) ++ nd.con.data.toList))
def coreP (D : Nat) (p : ByteArray × ByteArray) : List UInt8 := bl D ++ (46 :: (p.1.data.toList ++ 61 :: quote p.2.data.toList))
def coreR (D : Nat) (r : ByteArray × Int) : List UInt8 := bl D ++ (62 :: (r.1.data.toList ++ 61 :: Lib.itoa r.2))
def coreL (p : Nd × Nat) : List (List UInt8) := coreN p.1 p.2 :: (p.1.props.map (coreP p.2) ++ p.1.refs.map (coreR p.2))
theorem coreL_is (p : Nd × Nat) : nodeL p.1 p.2 = (coreL p).map (· ++ [10]) := by
  unfold nodeL coreL
  rw [List.map_cons, List.map_append, List.map_map, List.map_map]
  rfl
section
variable {next : Int} {A : List (Nd × Nat)} {x : Nd} {D : Nat}
theorem read_props (hn : next ≠ 0) (hx : x.refs = []) : ∀ (l2 l1 : List (ByteArray × ByteArray)), propsB none (l1 ++ l2) = true →
    readL (stA next (A ++ [({ x with props := l1 }, D)])) (l2.map (coreP D)) = some (stA next (A ++ [({ x with props := l1 ++ l2 }, D)]))
  | [], l1, _ => by rw [List.append_nil]; rfl
  | p :: l2, l1, h => by
    obtain ⟨h1, h2, h3⟩ := propsB_mid h
    obtain ⟨hl, hd⟩ := stA_last next A ({ x with props := l1 }, D)
    have ht := prop_line (st := stA next (A ++ [({ x with props := l1 }, D)])) (nd := { x with props := l1, kids := [] }) (p := p) hn hl hd.symm h1 h2 hx h3
    have e := stA_turn next A ({ x with props := l1 }, D) ({ x with props := l1 ++ [p] }, D) rfl
    show (takesV _ (coreP D p)).bind _ = _
    have ht' : takesV (stA next (A ++ [({ x with props := l1 }, D)])) (coreP D p) = some (stA next (A ++ [({ x with props := l1 ++ [p] }, D)])) := by
      unfold coreP
      rw [← e]
      exact ht
    rw [ht', Option.bind_some, read_props hn hx l2 (l1 ++ [p]) (by rw [List.append_assoc]; exact h), List.append_assoc]
    rfl
theorem read_refs (hn : next ≠ 0) (hn2 : next ≤ 1048577) : ∀ (l2 l1 : List (ByteArray × Int)), refsB next none (l1 ++ l2) = true →
    readL (stA next (A ++ [({ x with refs := l1 }, D)])) (l2.map (coreR D)) = some (stA next (A ++ [({ x with refs := l1 ++ l2 }, D)]))
  | [], l1, _ => by rw [List.append_nil]; rfl
  | p :: l2, l1, h => by
    obtain ⟨h1, h2, h3⟩ := refsB_mid h
    obtain ⟨hl, hd⟩ := stA_last next A ({ x with refs := l1 }, D)
    have ht := ref_line (st := stA next (A ++ [({ x with refs := l1 }, D)])) (nd := { x with refs := l1, kids := [] }) (r := p) hn hn2 hl hd.symm h1 h2 h3
    have e := stA_turn next A ({ x with refs := l1 }, D) ({ x with refs := l1 ++ [p] }, D) rfl
    show (takesV _ (coreR D p)).bind _ = _
    have ht' : takesV (stA next (A ++ [({ x with refs := l1 }, D)])) (coreR D p) = some (stA next (A ++ [({ x with refs := l1 ++ [p] }, D)])) := by
      unfold coreR
      rw [← e]
      exact ht
    rw [ht', Option.bind_some, read_refs hn hn2 l2 (l1 ++ [p]) (by rw [List.append_assoc]; exact h), List.append_assoc]
    rfl
end
section
variable {next : Int} {N : List Nd} {E : List (Nd × Nat)}
theorem read_node {A R : List (Nd × Nat)} {q : Nd × Nat} (h : Listed next N E) (hE : E = A ++ q :: R) (hok : RsOk (stA next A)) : readL (stA next A) (coreL q) = some (stA next (A ++ [q])) := by
  have hqm : q ∈ E := by rw [hE]; simp
  have hn0 : next ≠ 0 := by have := h.lo; omega
  have hlv := h.lv q hqm
  have hpr := h.par q hqm
  have hdr : (q.2 - 1 = 0 ∧ q.1.role = ByteArray.empty) ∨ (q.2 - 1 ≠ 0 ∧ wordB q.1.role = true) := by
    rcases hpr with ⟨h1, _, h3⟩ | ⟨h1, _, h3⟩
    · exact .inl ⟨by omega, h3⟩
    · exact .inr ⟨by omega, h3⟩
  have hif : (if q.1.par = 0 then [] else q.1.role.data.toList ++ [32]) = (if q.2 - 1 = 0 then [] else q.1.role.data.toList ++ [32]) := by
    rcases hpr with ⟨h1, h2, _⟩ | ⟨h1, h2, _⟩
    · rw [if_pos h2, if_pos (by omega)]
    · rw [if_neg h2, if_neg (by omega)]
  have hline := node_line (st := stA next A) (d := q.2 - 1) (id := q.1.id) (con := q.1.con) (role := q.1.role) hn0 (h.ids q hqm) h.hi (h.sp q hqm).con hdr
  rw [stands_next h hE hok] at hline
  have h1 : takesV (stA next A) (coreN q.1 q.2) = some (stA next (A ++ [({ q.1 with props := [], refs := [] }, q.2)])) := by
    unfold coreN
    rw [hif]
    exact hline
  unfold coreL
  show (takesV (stA next A) (coreN q.1 q.2)).bind _ = _
  rw [h1, Option.bind_some, readL_app]
  have h2 := read_props (next := next) (A := A) (x := { q.1 with props := [], refs := [] }) (D := q.2) hn0 rfl q.1.props [] (h.sp q hqm).props
  rw [show ({ ({ q.1 with props := [], refs := [] } : Nd) with props := [] } : Nd) = { q.1 with props := [], refs := [] } from rfl] at h2
  rw [h2, Option.bind_some]
  have h3 := read_refs (next := next) (A := A) (x := q.1) (D := q.2) hn0 h.hi q.1.refs [] (h.sp q hqm).refs
  exact h3
theorem readL_ok : ∀ (ls : List (List UInt8)) (st st' : RS), st.next ≠ 0 → RsOk st → RsTree st → readL st ls = some st' → st'.next ≠ 0 ∧ RsOk st' ∧ RsTree st'
  | [], st, st', h1, h2, h3, h => by obtain rfl := Option.some.inj h; exact ⟨h1, h2, h3⟩
  | l :: ls, st, st', h1, h2, h3, h => by
    obtain ⟨s1, ht, h⟩ := Option.bind_eq_some_iff.1 h
    obtain ⟨a1, a2, a3, _⟩ := line_step (fun e => absurd e h1) (fun _ => ⟨h2, h3⟩) ht
    exact readL_ok ls s1 st' a1 a2 a3 h
theorem read_all (h : Listed next N E) : ∀ (R A : List (Nd × Nat)), E = A ++ R → RsOk (stA next A) → RsTree (stA next A) → readL (stA next A) (R.flatMap coreL) = some (stA next E)
  | [], A, hE, _, _ => by rw [hE, List.append_nil]; rfl
  | q :: R, A, hE, h1, h2 => by
    have hn0 : (stA next A).next ≠ 0 := by show next ≠ 0; have := h.lo; omega
    have h3 := read_node h hE h1
    obtain ⟨_, a2, a3⟩ := readL_ok _ _ _ hn0 h1 h2 h3
    rw [List.flatMap_cons, readL_app, h3, Option.bind_some]
    exact read_all h R (A ++ [q]) (by rw [hE]; simp) a2 a3
/-- a right model's nodes in document order -/
theorem listN_mem (hR : RightM next N) : ∀ (f D : Nat) (ids : List Int), ∀ p ∈ listN N f D ids, p.1 ∈ N := by
  intro f
  induction f with
  | zero => intro D ids p h; simp [listN] at h
  | succ f ih =>
    intro D ids p h
    simp only [listN, List.mem_flatMap] at h
    obtain ⟨x, _, h⟩ := h
    cases hx : ndOf N x with
    | none => rw [hx] at h; cases h
    | some nd =>
      rw [hx] at h
      rcases List.mem_cons.1 h with rfl | h
      · exact ((ndOf_mem hR.rise).1 hx).1
      · exact ih (D + 1) nd.kids p h
theorem listed (hB : rightB next N = true) : Listed next N (listN N 64 1 (rootsV N)) ∧ (listN N 64 1 (rootsV N)).map (fun p => (p.1.id, p.2)) = pre N 64 1 (rootsV N) := by
  have hR := rightM hB
  have hT := tm_of hB
  have hpre := listN_pre hR 64 1 1 (rootsV N) (by omega) (roots_at hR)
  refine ⟨?_, hpre⟩
  obtain ⟨hw, hs⟩ := listN_wf hR 64 1 (rootsV N) (by omega) (roots_at hR)
  have hids : (listN N 64 1 (rootsV N)).map (·.1.id) = orderV N := by
    rw [← order_pre hR, ← hpre, List.map_map]; rfl
  have hdep : ∀ p ∈ listN N 64 1 (rootsV N), depthV N p.1.id = p.2 := fun p hp => by
    have := (pre_mem hR 64 1 1 (rootsV N) (roots_at hR) (p.1.id, p.2) (by rw [← hpre]; exact List.mem_map_of_mem (f := fun p : Nd × Nat => (p.1.id, p.2)) hp)).2.2.1
    simp only at this
    omega
  have hmem := listN_mem hR 64 1 (rootsV N)
  have hlow := listN_low (N := N) 64 1 (rootsV N)
  refine ⟨hT.lo, hT.hi, ?_, hw, hs, fun p hp => listN_head p hp, by rw [hids]; exact order_nodup hR, fun p hp => ⟨hlow p hp, ?_⟩, fun p hp => hT.ids p.1 (hmem p hp), fun p hp => hT.sp p.1 (hmem p hp), fun p hp => ?_, ?_⟩
  · rw [← List.length_map (f := fun p : Nd × Nat => p.1.id), hids, order_full hR]
    exact hT.len
  · rw [← hdep p hp]; exact depthV_le N _
  · have hst := (hR.step (hmem p hp)).1
    rw [hdep p hp] at hst
    rcases hT.par p.1 (hmem p hp) with ⟨h1, h2⟩ | ⟨h1, h2, y, hy, hyi, _⟩
    · rw [h1, depth_root.2] at hst
      refine .inl ⟨by omega, h1, ?_⟩
      rw [toList_data] at h2
      apply ByteArray.ext
      apply Array.toList_inj.1
      rw [h2]; rfl
    · refine .inr ⟨?_, h1, h2⟩
      have := (hR.step hy).1
      rw [hyi] at this
      omega
  · have hf := listN_firsts hR 64 1 (rootsV N) (fun x hx => (roots_at hR x hx).1) (.inl (by omega))
    rw [List.filter_map, List.map_map] at hf
    have hsorted : (rootsV N).Pairwise (· < ·) := by
      unfold rootsV
      exact hT.rise.sublist (List.Sublist.map _ List.filter_sublist)
    rw [← hf, List.pairwise_map] at hsorted
    exact hsorted
/-- what is printed is read back -/
theorem parse_print {T : List UInt8} (h : printV next N = (T, 0)) : rightB next N = true ∧ T.length ≤ 1048576 ∧ parseV T = ((next, N), 0, 0) := by
  unfold printV at h
  by_cases hB : rightB next N = true
  · rw [if_pos hB] at h
    unfold toldV at h
    split at h
    · have := congrArg (·.2) h; exact absurd this (by show ¬ (3 : Int) = 0; decide)
    · rename_i hlen
      have hT := congrArg (·.1) h
      simp only at hT
      rw [hT] at hlen
      obtain ⟨hL, hpre⟩ := listed hB
      have hR := rightM hB
      have hTM := tm_of hB
      have hmem := listN_mem hR 64 1 (rootsV N)
      generalize hEE : listN N 64 1 (rootsV N) = E at hL hpre hmem
      have e1 : (pre N 64 1 (rootsV N)).flatMap (nodeT N) = (E.flatMap coreL).map (· ++ [10]) := by
        rw [← hpre, List.flatMap_map, List.map_flatMap]
        have : ∀ p ∈ E, nodeT N (p.1.id, p.2) = (coreL p).map (· ++ [10]) := fun p hp => by
          unfold nodeT
          rw [(ndOf_mem hR.rise).2 ⟨hmem p hp, rfl⟩]
          exact coreL_is p
        clear hEE hL hpre
        induction E with
        | nil => rfl
        | cons p E ih => rw [List.flatMap_cons, List.flatMap_cons, this p (by simp), ih (fun q hq => hmem q (by simp [hq])) (fun q hq => this q (by simp [hq]))]
      have e2 : T = ((([110, 101, 120, 116, 32] ++ Lib.itoa next) :: E.flatMap coreL).map (· ++ [10])).flatten := by
        rw [← hT, e1]
        rfl
      have hfirst := first_line (st := ⟨0, [], []⟩) ⟨hL.lo, hL.hi⟩ rfl
      have hok0 : RsOk (stA next []) := line_ok (st := ⟨0, [], []⟩) (fun h => absurd rfl h) (by rw [← takesV_line]; exact hfirst)
      have hread : readL ⟨0, [], []⟩ (([110, 101, 120, 116, 32] ++ Lib.itoa next) :: E.flatMap coreL) = some (stA next E) := by
        show (takesV _ _).bind _ = _
        rw [hfirst, Option.bind_some]
        exact read_all hL E [] rfl hok0 (rsTree_nil next)
      have hno : ∀ l ∈ (([110, 101, 120, 116, 32] ++ Lib.itoa next) :: E.flatMap coreL), ∀ x ∈ l, x ≠ 10 := by
        have hit : ∀ n : Int, 1 ≤ n → ∀ x ∈ Lib.itoa n, x ≠ 10 := fun n hn x hx => (isDg_ne ((itoa_all hn).1 x hx)).2.2.2.2
        have hbl : ∀ k, ∀ x ∈ bl k, x ≠ 10 := fun k x hx => by
          unfold bl at hx
          rw [(List.mem_replicate.1 hx).2]; decide
        have hwd : ∀ w : ByteArray, wordB w = true → ∀ x ∈ w.data.toList, x ≠ 10 := fun w hw x hx => (wordL_ne hw x hx).2.2
        intro l hl x hx
        rcases List.mem_cons.1 hl with rfl | hl
        · rcases List.mem_append.1 hx with hx | hx
          · have : x = 110 ∨ x = 101 ∨ x = 120 ∨ x = 116 ∨ x = 32 := by simpa using hx
            rcases this with rfl | rfl | rfl | rfl | rfl <;> decide
          · exact hit next hL.lo x hx
        · obtain ⟨p, hp, hl⟩ := List.mem_flatMap.1 hl
          have hsp := hL.sp p hp
          unfold coreL at hl
          rcases List.mem_cons.1 hl with rfl | hl
          · unfold coreN at hx
            rcases List.mem_append.1 hx with hx | hx
            · exact hbl _ x hx
            · rcases List.mem_append.1 hx with hx | hx
              · exact hit _ (hL.ids p hp).1 x hx
              · rcases List.mem_cons.1 hx with rfl | hx
                · decide
                · rcases List.mem_append.1 hx with hx | hx
                  · rcases hL.par p hp with ⟨_, h2, _⟩ | ⟨_, h2, h3⟩
                    · rw [if_pos h2] at hx; cases hx
                    · rw [if_neg h2] at hx
                      rcases List.mem_append.1 hx with hx | hx
                      · exact hwd _ h3 x hx
                      · obtain rfl : x = 32 := by simpa using hx
                        decide
                  · exact hwd _ hsp.con x hx
          · rcases List.mem_append.1 hl with hl | hl
            · obtain ⟨y, hy, rfl⟩ := List.mem_map.1 hl
              obtain ⟨l1, l2, hl12⟩ := List.append_of_mem hy
              have hw := (propsB_mid (by rw [← hl12]; exact hsp.props)).1
              unfold coreP at hx
              rcases List.mem_append.1 hx with hx | hx
              · exact hbl _ x hx
              · rcases List.mem_cons.1 hx with rfl | hx
                · decide
                · rcases List.mem_append.1 hx with hx | hx
                  · exact hwd _ hw x hx
                  · rcases List.mem_cons.1 hx with rfl | hx
                    · decide
                    · exact quote_no10 _ x hx
            · obtain ⟨y, hy, rfl⟩ := List.mem_map.1 hl
              obtain ⟨l1, l2, hl12⟩ := List.append_of_mem hy
              have hw := refsB_mid (by rw [← hl12]; exact hsp.refs)
              unfold coreR at hx
              rcases List.mem_append.1 hx with hx | hx
              · exact hbl _ x hx
              · rcases List.mem_cons.1 hx with rfl | hx
                · decide
                · rcases List.mem_append.1 hx with hx | hx
                  · exact hwd _ hw.1 x hx
                  · rcases List.mem_cons.1 hx with rfl | hx
                    · decide
                    · exact hit _ hw.2.1.1 x hx
      have hlines := lines_read _ _ (T.length + 1) 0 (stA next E) (by simp) hno hread (by rw [← e2]; omega)
      rw [← e2] at hlines
      refine ⟨hB, by omega, ?_⟩
      unfold parseV
      rw [if_neg hlen, hlines]
      simp only
      have hkk : (stA next E).nds = E.map (·.1) := cutK_all hL.wf
      have hids : (E.map (·.1)).map (·.id) = orderV N := by
        rw [List.map_map, ← order_pre hR, ← hpre, List.map_map]; rfl
      have hnd : ((E.map (·.1)).map (·.id)).Nodup := by rw [hids]; exact order_nodup hR
      have hperm : N.Perm (E.map (·.1)) := by
        have hn1 : N.Nodup := by
          have := ids_nodup hR.rise
          exact List.Pairwise.imp (fun h e => h (by rw [e])) (List.pairwise_map.1 (List.nodup_iff_pairwise_ne.1 this))
        have hn2 : (E.map (·.1)).Nodup := List.Pairwise.imp (fun h e => h (by rw [e])) (List.pairwise_map.1 (List.nodup_iff_pairwise_ne.1 hnd))
        refine (List.perm_ext_iff_of_nodup hn1 hn2).2 fun a => ⟨fun ha => ?_, fun ha => ?_⟩
        · have := order_mem_all hR ha
          rw [← hids] at this
          obtain ⟨b, hb, he⟩ := List.mem_map.1 this
          obtain ⟨p, hp, rfl⟩ := List.mem_map.1 hb
          rw [← nd_uniq hR.rise (hmem p hp) ha he]
          exact hb
        · obtain ⟨p, hp, rfl⟩ := List.mem_map.1 ha
          exact hmem p hp
      have hsort : N = sortV (E.map (·.1)) := sortV_is hnd hperm (by
        have := hTM.rise
        rw [List.pairwise_map] at this
        exact this)
      show ((next, sortV (stA next E).nds), (0 : Int), (0 : Int)) = _
      rw [hkk, ← hsort]
  · rw [if_neg hB] at h
    have := congrArg (·.2) h
    exact absurd this (by show ¬ (29 : Int) = 0; decide)
end
end Go.Proofs.YtjjlofaejpnnnaaGreatDoor
namespace Go.Proofs.YtjjlofaejpnnnaaGreatDoor
open Go Go.RowKit
def awT : List UInt8 := [110, 101, 120, 116, 32, 49, 50, 10, 49, 32, 67, 108, 97, 115, 115, 10, 32, 46, 110, 97, 109, 101, 61, 34, 97, 92, 34, 98, 34, 10, 32, 62, 115, 117, 112, 101, 114, 61, 57, 10, 32, 52, 32, 109, 101, 109, 98, 101, 114, 115, 32, 70, 105, 101, 108, 100, 10, 32, 32, 46, 120, 61, 34, 49, 34, 10, 32, 50, 32, 101, 120, 116, 114, 97, 32, 70, 105, 101, 108, 100, 10, 51, 32, 63, 75, 101, 112, 116, 10]
def awM : List Nd := [⟨1, ⟨#[67, 108, 97, 115, 115]⟩, 0, ⟨#[]⟩, [(⟨#[110, 97, 109, 101]⟩, ⟨#[97, 34, 98]⟩)], [4, 2], [(⟨#[115, 117, 112, 101, 114]⟩, 9)]⟩, ⟨2, ⟨#[70, 105, 101, 108, 100]⟩, 1, ⟨#[101, 120, 116, 114, 97]⟩, [], [], []⟩, ⟨3, ⟨#[63, 75, 101, 112, 116]⟩, 0, ⟨#[]⟩, [], [], []⟩, ⟨4, ⟨#[70, 105, 101, 108, 100]⟩, 1, ⟨#[109, 101, 109, 98, 101, 114, 115]⟩, [(⟨#[120]⟩, ⟨#[49]⟩)], [], []⟩]
theorem aw1 : parseV awT = ((12, awM), 0, 0) := by kernel_rfl
theorem aw2 : parseV [110, 101, 120, 116, 32, 53, 10, 50, 32, 65, 10, 49, 32, 66, 10] = ((0, []), 3, 30) := by kernel_rfl
theorem aw3 : parseV [] = ((0, []), 1, 30) := by kernel_rfl
theorem aw4 : printV 12 awM = (awT, 0) := by kernel_rfl
theorem aw5 : printV 0 [] = ([], 29) := by kernel_rfl
end Go.Proofs.YtjjlofaejpnnnaaGreatDoor

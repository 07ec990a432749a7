/-
  WALKS over package sheet: line; strings.TrimLeft at a blank.
  WALKS over package sheet: what has been read, in the order of its numbers: slices.SortFunc at nodes; model.
-/
import Derived.Test.YtjjlofaejpnnnaaGreatDoorZB24
namespace Go.Proofs.YtjjlofaejpnnnaaGreatDoor
open Go Go.RowKit
set_option linter.unusedVariables false
def behindB (l : List UInt8) : List UInt8 := l.drop (l.takeWhile (· == 32)).length
theorem behindB_cons (c : UInt8) (l : List UInt8) : behindB (c :: l) = if c = 32 then behindB l else c :: l := by
  unfold behindB
  rw [List.takeWhile_cons]
  by_cases h : c = 32
  · rw [if_pos h, if_pos (by simpa using h), List.length_cons, List.drop_succ_cons]
  · rw [if_neg h, if_neg (by simpa using h)]; rfl
def TrimP (s : ByteArray) (w : World) (e : Ending) (w' : World) : Prop := ∃ r : ByteArray, e = .returned (.string r) ∧ r.data.toList = behindB s.data.toList ∧ r.size ≤ s.size ∧ w = w'
set_option maxHeartbeats 1600000 in
theorem trimB_any (s : ByteArray) (w : World) (hs : s.size ≤ 281474976710656) : Calls Tryz.prog 77 #[.string s, .int .u8 32] w (TrimP s w) := by
  go_enter Tryz.func77, Tryz.ntmps77
  go_wp2_with fail
  go_loop [0] (fun i => ∃ r : ByteArray, i = .string r ∧ r.size ≤ s.size ∧ Hid (behindB s.data.toList = behindB r.data.toList)) (fun i => match i with | .string r => r.size | _ => 0)
  case atStart => exact ⟨s, rfl, Nat.le_refl _, Lib.hid rfl⟩
  case round =>
    obtain ⟨r, rfl, hr, HR⟩ := hrel
    by_cases h0 : 0 < r.size
    · have e0 := drop_get' r 0 h0
      rw [List.drop_zero] at e0
      have hr0 : (0 : Int) < (r.size : Int) := by omega
      by_cases hc : r[0] = 32
      · have d1 : ((r[0].toNat : Int) == 32) = true := by rw [hc]; rfl
        have hsz : (r.extract 1 r.size).size = r.size - 1 := by rw [← toList_eq, Lib.extract_data, List.length_take, List.length_drop, toList_eq]; omega
        have HX : Hid (behindB s.data.toList = behindB (r.extract 1 r.size).data.toList) := Lib.hid (by
          rw [HR.out, Lib.extract_data, e0, behindB_cons, if_pos hc]
          rw [List.take_of_length_le (by simp)]
          rfl)
        clear hc e0
        go_wp2_with fail
        go_round
        case rel => exact ⟨_, rfl, by omega, HX⟩
        case measure => simp only; omega
      · have d1 : ((r[0].toNat : Int) == 32) = false := by
          rw [beq_eq_false_iff_ne]
          intro h
          exact hc (UInt8.toNat_inj.1 (by have : (32 : UInt8).toNat = 32 := rfl; omega))
        have HX : Hid (behindB s.data.toList = r.data.toList) := Lib.hid (by rw [HR.out, e0, behindB_cons, if_neg hc])
        clear hc e0
        go_wp2_with fail
        go_ret
        exact ⟨r, rfl, HX.out.symm, hr, rfl⟩
    · have hr0 : ¬ (0 : Int) < (r.size : Int) := by omega
      have HX : Hid (behindB s.data.toList = r.data.toList) := Lib.hid (by
        have : r.data.toList = [] := List.eq_nil_of_length_eq_zero (by rw [toList_eq]; omega)
        rw [HR.out, this]; rfl)
      go_wp2_with fail
      go_ret
      exact ⟨r, rfl, HX.out.symm, hr, rfl⟩
set_option maxHeartbeats 1600000 in
theorem trim_at (s p : ByteArray) (w : World) (h1 : p.size = 1) (hl : 0 < p.size) (hv : p[0].toNat = 32) (he : p.toList.isEmpty = false) (hs : s.size ≤ 281474976710656) : Calls Tryz.prog 42 #[.string s, .string p] w (TrimP s w) := by
  have HT : Hid (Calls Tryz.prog 77 #[.string s, .int .u8 (p[0].toNat : Int)] w (TrimP s w)) := Lib.hid (by
    rw [hv]
    exact trimB_any s w hs)
  have d1 : ((p.size : Int) == 1) = true := by rw [h1]; rfl
  have d2 : (p[0].toNat : Int) < 128 := by omega
  clear hs h1 hv
  cases h0 : s.toList.isEmpty with
  | true =>
    have HX : Hid (s.data.toList = behindB s.data.toList) := Lib.hid (by
      have : s.data.toList = [] := by rw [← Lib.toList_data]; simpa using h0
      rw [this]; rfl)
    go_enter Tryz.func42, Tryz.ntmps42
    go_wp2_with fail
    go_ret
    exact ⟨s, rfl, HX.out, Nat.le_refl _, rfl⟩
  | false =>
    go_enter Tryz.func42, Tryz.ntmps42
    go_wp2_with (go_at_call 77; refine HT.out.mono ?_; rintro e w' ⟨r, rfl, h1, h2, h3⟩)
    go_ret
    exact ⟨r, rfl, h1, h2, h3⟩
theorem trim_any (s : ByteArray) (w : World) (hs : s.size ≤ 281474976710656) : Calls Tryz.prog 42 #[.string s, .string ⟨#[32]⟩] w (TrimP s w) :=
  trim_at s ⟨#[32]⟩ w rfl (by decide) rfl (by rw [Lib.toList_data]; rfl) hs
theorem lineV_next {st : RS} (h : st.next ≠ 0) (s : List UInt8) : lineV st s = (match behindB s with
    | 46 :: t => propP st (s.takeWhile (· == 32)).length t
    | 62 :: t => refP st (s.takeWhile (· == 32)).length t
    | r => nodeP st (s.takeWhile (· == 32)).length r) := by
  unfold lineV behindB
  rw [if_neg h]
  rfl
theorem take1 {l : List UInt8} {c : UInt8} (h : l.take 1 = [c]) : l = c :: l.drop 1 := by
  cases l with
  | nil => simp at h
  | cons x t => simp at h; subst h; rfl
set_option maxRecDepth 20000 in
set_option maxHeartbeats 3200000 in
theorem rdLine_any (w : World) (B0 B gr gm k : Nat) (v vw : Value) (l : List (Nd × Leaf)) (st : RS) (h : RIn B gr gm k v vw l st w) (hB0 : B0 ≤ gr) (hB1 : B0 ≤ gm) (s : ByteArray) (hs : s.size ≤ 1048576) (hk : k + 1 ≤ 4194304) (hE : Env w) :
    Calls Tryz.prog 19 #[.pointer (some ⟨gr, 0, none⟩), .string s] w (LineQ B0 B gr gm k (lineV st s.data.toList) w) := by
  have hgl := h.box.lt
  obtain ⟨c0, _⟩ := rd_cells h.box
  by_cases h0 : st.next = 0
  · have HF := Lib.hid (first_any w B0 B gr gm k v vw l st h h0 hB0 s hs hk hE)
    have e : lineV st s.data.toList = firstP s.data.toList := by unfold lineV; rw [if_pos h0]
    rw [e]
    have d0 : (st.next == 0) = true := by rw [h0]; rfl
    clear h hE h0 e
    go_enter Tryz.func19, Tryz.ntmps19
    go_wp2_with fail
    refine HF.out.mono ?_
    rintro e w' ⟨rfl, h1, h2⟩
    go_wp2_with fail
    go_ret
    exact ⟨rfl, h1, h2⟩
  · have d0 : (st.next == 0) = false := by simpa using h0
    have HT := Lib.hid (trim_any s w (by omega))
    have HPP : Hid (∀ (d : Nat) (t : ByteArray), t.size ≤ s.size → Calls Tryz.prog 44 #[.pointer (some ⟨gr, 0, none⟩), .int .i64 d, .string t] w (LineQ B0 B gr gm k (propP st d t.data.toList) w)) := Lib.hid fun d t ht => prop_any w B0 B gr gm k v vw l st h h0 hB0 hB1 d t (by omega) hk
    have HPR : Hid (∀ (d : Nat) (t : ByteArray), t.size ≤ s.size → Calls Tryz.prog 45 #[.pointer (some ⟨gr, 0, none⟩), .int .i64 d, .string t] w (LineQ B0 B gr gm k (refP st d t.data.toList) w)) := Lib.hid fun d t ht => ref_any w B0 B gr gm k v vw l st h h0 hB0 hB1 d t (by omega) hk hE
    have HPN : Hid (∀ (d : Nat) (t : ByteArray), t.size ≤ s.size → d ≤ 1048576 → Calls Tryz.prog 46 #[.pointer (some ⟨gr, 0, none⟩), .int .i64 d, .string t] w (LineQ B0 B gr gm k (nodeP st d t.data.toList) w)) := Lib.hid fun d t ht hd => rdNode_any w B0 B gr gm k v vw l st h h0 hB0 hB1 d t (by omega) hd hk hE
    have HLV := Lib.hid (lineV_next h0 s.data.toList)
    clear h hE h0
    go_enter Tryz.func19, Tryz.ntmps19
    go_upto_region 4 with (go_at_call 42; refine HT.out.mono ?_; rintro e w' ⟨r, rfl, hr1, hr2, rfl⟩)
    obtain ⟨d, hd⟩ : ∃ d, (s.data.toList.takeWhile (· == 32)).length = d := ⟨_, rfl⟩
    have hdr : d + r.size = s.size := by
      have h1 := congrArg List.length hr1
      have h2 : (s.data.toList.takeWhile (· == 32)).length ≤ s.data.toList.length := (List.takeWhile_sublist _).length_le
      unfold behindB at h1
      rw [List.length_drop, toList_eq, toList_eq, hd] at h1
      rw [toList_eq, hd] at h2
      omega
    have hwr : IntKind.i64.wrap ((s.size : Int) - (r.size : Int)) = (d : Int) := by rw [IntWalk.i64_in _ (by omega)]; omega
    have HL2 : Hid (lineV st s.data.toList = (match r.data.toList with
      | 46 :: t => propP st d t
      | 62 :: t => refP st d t
      | r => nodeP st d r)) := Lib.hid (by rw [HLV.out, ← hr1, hd])
    have HC1 := Lib.hid (pre_any r ⟨#[46]⟩ w)
    have HC2 := Lib.hid (pre_any r ⟨#[62]⟩ w)
    clear HLV hr1 hd
    go_wp2_with fail
    refine HC1.out.mono ?_
    rintro e w1 ⟨t, rfl, ht1, ht2, rfl⟩
    by_cases hp : r.data.toList.take 1 = [46]
    · have hdc : decide (r.data.toList.take (⟨#[46]⟩ : ByteArray).size = (⟨#[46]⟩ : ByteArray).data.toList) = true := decide_eq_true hp
      rw [hdc]
      have HTL : Hid (lineV st s.data.toList = propP st d t.data.toList) := Lib.hid (by
        rw [HL2.out, take1 hp, ht1 hp]; rfl)
      have HG := Lib.hid (HPP.out d t (by omega))
      clear hdc ht1 hp
      go_wp2_with fail
      refine HG.out.mono ?_
      rintro e w' ⟨rfl, h1, h2⟩
      go_wp2_with fail
      go_ret
      rw [HTL.out]
      exact ⟨rfl, h1, h2⟩
    · have hdc : decide (r.data.toList.take (⟨#[46]⟩ : ByteArray).size = (⟨#[46]⟩ : ByteArray).data.toList) = false := decide_eq_false hp
      rw [hdc]
      have HNP := Lib.hid hp
      clear hdc ht1 hp
      go_wp2_with fail
      refine HC2.out.mono ?_
      rintro e w1 ⟨t2, rfl, ht1, ht3, rfl⟩
      by_cases hp : r.data.toList.take 1 = [62]
      · have hdc : decide (r.data.toList.take (⟨#[62]⟩ : ByteArray).size = (⟨#[62]⟩ : ByteArray).data.toList) = true := decide_eq_true hp
        rw [hdc]
        have HTL : Hid (lineV st s.data.toList = refP st d t2.data.toList) := Lib.hid (by
          rw [HL2.out, take1 hp, ht1 hp]; rfl)
        have HG := Lib.hid (HPR.out d t2 (by omega))
        clear hdc ht1 hp
        go_wp2_with fail
        refine HG.out.mono ?_
        rintro e w' ⟨rfl, h1, h2⟩
        go_wp2_with fail
        go_ret
        rw [HTL.out]
        exact ⟨rfl, h1, h2⟩
      · have hdc : decide (r.data.toList.take (⟨#[62]⟩ : ByteArray).size = (⟨#[62]⟩ : ByteArray).data.toList) = false := decide_eq_false hp
        rw [hdc]
        have HTL : Hid (lineV st s.data.toList = nodeP st d r.data.toList) := Lib.hid (by
          rw [HL2.out]
          split
          · rename_i heq; rw [heq] at HNP; exact absurd rfl HNP.out
          · rename_i heq; rw [heq] at hp; exact absurd rfl hp
          · rfl)
        have HG := Lib.hid (HPN.out d r (by omega) (by omega))
        clear hdc ht1 hp
        go_wp2_with fail
        refine HG.out.mono ?_
        rintro e w' ⟨rfl, h1, h2⟩
        go_wp2_with fail
        go_ret
        rw [HTL.out]
        exact ⟨rfl, h1, h2⟩
end Go.Proofs.YtjjlofaejpnnnaaGreatDoor
namespace Go.Proofs.YtjjlofaejpnnnaaGreatDoor
open Go Go.RowKit Go.Sort Go.Lib Go.Shelf
set_option linter.unusedVariables false
instance : Inhabited Nd := ⟨⟨0, ⟨#[]⟩, 0, ⟨#[]⟩, [], [], []⟩⟩
instance : Inhabited Leaf := ⟨⟨⟨none, 0, 0⟩, ⟨none, 0, 0⟩, ⟨none, 0, 0⟩⟩⟩
def cmpN (x y : Nd × Leaf) : Int := Lib.compareInt x.1.id y.1.id
theorem ltN (x y : Nd × Leaf) : ltOf cmpN x y = decide (x.1.id < y.1.id) := by
  unfold ltOf cmpN Lib.compareInt
  by_cases h1 : x.1.id < y.1.id
  · simp [h1]
  · by_cases h2 : y.1.id < x.1.id <;> simp [h1, h2]
theorem swoN : SWO (ltOf cmpN) where
  irrefl x := by rw [ltN]; simp
  trans x y z h1 h2 := by rw [ltN] at *; simp at *; omega
  ntrans x y z h1 h2 := by rw [ltN] at *; simp at *; omega
set_option maxHeartbeats 1000000 in
theorem cmpId_any (x y : Nd × Leaf) (W : World) : Calls Tryz.prog 48 #[.agg (ndCells x).toArray, .agg (ndCells y).toArray] W fun e w' => e = .returned (.int .i64 (cmpN x y)) ∧ ∃ q os', w' = grow (W.drewN q) os' := by
  have hcon := fun W' => Tryz.cmp_Compare_int x.1.id y.1.id W'
  unfold cmpN
  generalize Lib.compareInt x.1.id y.1.id = r at hcon ⊢
  show Calls Tryz.prog 48 #[.agg #[.int .i64 x.1.id, .string x.1.con, .int .i64 x.1.par, .string x.1.role, .slice x.2.p.A x.2.p.n x.2.p.c, .slice x.2.k.A x.2.k.n x.2.k.c, .slice x.2.r.A x.2.r.n x.2.r.c], .agg #[.int .i64 y.1.id, .string y.1.con, .int .i64 y.1.par, .string y.1.role, .slice y.2.p.A y.2.p.n y.2.p.c, .slice y.2.k.A y.2.k.n y.2.k.c, .slice y.2.r.A y.2.r.n y.2.r.c]] W _
  go_enter Tryz.func48, Tryz.ntmps48
  go_wp2_with (go_at_call 49; refine (hcon _).mono ?_; rintro e w' ⟨rfl, rfl⟩)
  go_ret
  exact ⟨rfl, 0, _, by rw [alloc_eq_grow, alloc_eq_grow, grow_grow]; rfl⟩
theorem nd_one (p : Nd × Leaf) : ∀ v ∈ ndCells p, v.oneCell' = true := by
  intro v hv
  simp only [ndCells, List.mem_cons, List.not_mem_nil, or_false] at hv
  rcases hv with rfl | rfl | rfl | rfl | rfl | rfl | rfl <;> rfl
theorem flat_get {l : List (Nd × Leaf)} {i j : Nat} {p : Nd × Leaf} (hp : l[i]? = some p) (hj : j < 7) : (flatK ndCells 7 l.toArray)[i * 7 + j]! = (ndCells p)[j]! := by
  have hlt : i < l.length := (List.getElem?_eq_some_iff.1 hp).1
  rw [get_flatK _ _ _ _ (by simp only [List.size_toArray]; omega)]
  have e1 : (i * 7 + j) / 7 = i := by omega
  have e2 : (i * 7 + j) % 7 = j := by omega
  rw [e1, e2]
  congr 1
  rw [getElem!_def]
  simp [hp]
theorem nodes_hold {w : World} {B n c g : Nat} {l : List (Nd × Leaf)} (h : OwnN w B (.slice (some ⟨g, 0, none⟩) n c) l) (hl : l.length = n) : HoldsK ndCells 7 w g 0 l.toArray := by
  subst hl
  have ho : w.ownsRow B 55 7 (.slice (some ⟨g, 0, none⟩) l.length c) l.length (allCells l) := h
  intro j hj
  rw [size_flatK, List.size_toArray] at hj
  obtain ⟨p, hp⟩ : ∃ p, l[j / 7]? = some p := ⟨l[j / 7]'(by omega), List.getElem?_eq_getElem _⟩
  have hj7 : j % 7 < 7 := Nat.mod_lt _ (by omega)
  have e : j = j / 7 * 7 + j % 7 := by omega
  rw [Nat.zero_add]
  refine ⟨?_, World.ownsRow.frozenAt ho j⟩
  rw [World.ownsRow.cellAt ho j hj]
  unfold allCells
  have h2 := flat_get hp hj7
  rw [← e] at h2
  rw [h2]
  have h3 := flatN_get ndCells_len l (j / 7) p hp (j % 7) hj7
  rw [← e] at h3
  rw [h3]
  have hlen : j % 7 < (ndCells p).length := by rw [ndCells_len]; exact hj7
  rw [getElem!_pos (ndCells p) (j % 7) hlen, List.getElem?_eq_getElem hlen]
  rfl
theorem hold_nodes {w : World} {g : Nat} {l : List (Nd × Leaf)} (h : HoldsK ndCells 7 w g 0 l.toArray) {i : Nat} {p : Nd × Leaf} (hp : l[i]? = some p) : NodeAt w g (i * 7) p.1 p.2 := by
  have hlt : i < l.length := (List.getElem?_eq_some_iff.1 hp).1
  have key : ∀ j u, j < 7 → (ndCells p)[j]? = some u → w.cell? ⟨g, i * 7 + j, none⟩ = some u := by
    intro j u hj hu
    have h1 := (h (i * 7 + j) (by rw [size_flatK, List.size_toArray]; omega)).1
    rw [Nat.zero_add, flat_get hp hj] at h1
    rw [h1]
    have hlen : j < (ndCells p).length := by rw [ndCells_len]; exact hj
    rw [getElem!_pos (ndCells p) j hlen]
    rw [List.getElem?_eq_getElem hlen] at hu
    exact hu
  exact ⟨key 0 _ (by omega) rfl, key 1 _ (by omega) rfl, key 2 _ (by omega) rfl, key 3 _ (by omega) rfl, key 4 _ (by omega) rfl, key 5 _ (by omega) rfl, key 6 _ (by omega) rfl⟩
theorem sortW_grown {α : Type} [Inhabited α] (enc : α → List Value) (k : Nat) (w : World) (blk off m : Nat) (dk : Array α) (os : Array Obj) : w.grownBy (sortWorldK enc k w blk off m dk os) (some blk) := by
  refine ⟨rfl, rfl, rfl, size_sortWorldK_c enc k w blk off m dk os, fun i hi hne => ?_⟩
  unfold sortWorldK
  rw [heap_grow_old _ _ (by rw [size_putRowK]; exact hi)]
  show (w.heap.modify blk _)[i]? = _
  rw [Array.getElem?_modify, if_neg (fun e => hne (by rw [e]))]
def SortedP (w : World) (g : Nat) (l : List (Nd × Leaf)) (e : Ending) (w' : World) : Prop :=
  e = .returned (.tuple #[]) ∧ w.grownBy w' (some g) ∧ ∃ l' : List (Nd × Leaf), l'.Perm l ∧ l'.map (·.1) = sortV (l.map (·.1)) ∧ ∀ i p, l'[i]? = some p → NodeAt w' g (i * 7) p.1 p.2
theorem aggNode (w : World) : (isAgg 55).run Tryz.prog w = .ok true w := Tryz.isAgg55 w
theorem sizeNode (w : World) : (Go.sizeOf 55).run Tryz.prog w = .ok 7 w := Tryz.sizeOf55 w
theorem sortNodes_any (w : World) (B g n c : Nat) (l : List (Nd × Leaf)) (h : OwnN w B (.slice (some ⟨g, 0, none⟩) n c) l) (hl : l.length = n) (hn : n ≤ 4096) (hd : (l.map (·.1.id)).Nodup) :
    Calls Tryz.prog 47 #[.slice (some ⟨g, 0, none⟩) n c, .func (.func 48) #[] #[]] w (SortedP w g l) := by
  have hH := nodes_hold h hl
  have hblk : g < w.heap.size := (World.ownsRow.lt h g rfl).2
  have eg : ∀ args w, (callFunc 48 args).run Tryz.prog w = .ok (.enter 48 args) w := enters_of Tryz.func48 (by kernel_rfl) rfl
  have hcmp : CmpLays Tryz.prog 48 #[] ndCells 7 cmpN g 0 l.toArray.size w := fun _ _ _ _ x y => by
    have := cmpId_any x y
    simpa using this _
  have hcon := AnyQ.slices_SortFunc Tryz.sortNodes 7 aggNode sizeNode ndCells ndCells_len nd_one cmpN swoN 48 #[] g 0 c l.toArray w eg hcmp hH hblk (by simp only [List.size_toArray]; omega)
  change Calls Tryz.prog 47 _ _ _ at hcon
  rw [List.size_toArray, hl] at hcon
  refine hcon.mono ?_
  rintro e w' ⟨rfl, d', m, os, ⟨hs, _, hp⟩, hso, rfl⟩
  have hs2 : d'.size = l.toArray.size := hs
  refine ⟨rfl, sortW_grown _ _ _ _ _ _ _ _, d'.toList, ?_, ?_, fun i p hip => hold_nodes (l := d'.toList) ?_ hip⟩
  · rw [Array.extract_eq_self_of_le (by rw [hs2, List.size_toArray]; omega), Array.extract_eq_self_of_le (by rw [List.size_toArray]; omega)] at hp
    simpa using hp
  · have hperm : d'.toList.Perm l := by
      rw [Array.extract_eq_self_of_le (by rw [hs2, List.size_toArray]; omega), Array.extract_eq_self_of_le (by rw [List.size_toArray]; omega)] at hp
      simpa using hp
    have hnd : (d'.toList.map (·.1.id)).Nodup := (hperm.map _).nodup_iff.2 hd
    refine sortV_is (by rw [List.map_map]; exact hd) (hperm.map _) ?_
    rw [List.pairwise_iff_getElem]
    intro i j hi hj hij
    rw [List.length_map] at hi hj
    unfold IdLt
    rw [List.getElem_map, List.getElem_map]
    have hjn : j < n := by rw [← hl, ← List.size_toArray, ← hs2, ← Array.length_toList]; exact hj
    have h1 := hso i j (Nat.zero_le _) hij hjn
    have hi' : i < d'.size := by rw [← Array.length_toList]; exact hi
    have hj' : j < d'.size := by rw [← Array.length_toList]; exact hj
    rw [ltN, getElem!_pos d' j hj', getElem!_pos d' i hi', decide_eq_false_iff_not] at h1
    have h2 : d'[i].1.id ≠ d'[j].1.id := by
      have h3 := List.pairwise_iff_getElem.1 hnd i j (by rw [List.length_map]; exact hi) (by rw [List.length_map]; exact hj) hij
      simpa using h3
    simp only [Array.getElem_toList]
    omega
  · rw [Array.toArray_toList]
    exact holdsK_sortWorldK_c ndCells 7 w g 0 l.toArray d' m os hH hblk hs2
theorem sortNone_any (p : Option Addr) (c : Nat) (fv : Value) (w : World) : Calls Tryz.prog 47 #[.slice p 0 c, fv] w fun e w' => e = .returned (.tuple #[]) ∧ w = w' := by
  have := AnyF.slices_SortFunc_none Tryz.sortNodes p c fv w
  change Calls Tryz.prog 47 _ _ _ at this
  exact this.mono fun e w' h => ⟨h.1, h.2.symm⟩
/-- what model answers: the nodes in the order of their numbers -/
def ModelP (B0 : Nat) (st : RS) (w : World) (e : Ending) (w' : World) : Prop :=
  ∃ A n c, e = .returned (.agg #[.int .i64 st.next, .slice A n c]) ∧ NodesIn w' B0 w'.heap.size A n c (sortV st.nds) ∧ Below B0 w w'
/-- a list of a node in memory, where the nodes' row alone is written -/
theorem leaf_row {w W0 w1 : World} {lo s n c B s' n' : Nat} {A : Option Addr} {xs xs' : List Value} {e e' : TypeId} {v : Value} (hb : Below w.heap.size w W0) (hg : W0.grownBy w1 v.ownBlock) (h : Row w lo w.heap.size s A n c xs) (h2 : W0.ownsRow B e s (.slice A n c) n xs) (ho : W0.ownsRow B e' s' v n' xs') (hne : e ≠ e') : Row w1 lo w.heap.size s A n c xs := by
  have h3 := World.ownsRow.kept h2 hg (own_own_ne h2 ho hne)
  have h4 := own_row h3
  refine ⟨h.1, h.2.1, h.2.2.1, fun h0 => ?_⟩
  obtain ⟨b, o, hA, hlo, hlt, _⟩ := h.2.2.2 h0
  obtain ⟨b', o', hA', _, _, hc⟩ := h4.2.2.2 h0
  rw [hA] at hA'
  injection hA' with hA'
  injection hA' with hb' ho'
  subst hb' ho'
  exact ⟨b, o, hA, hlo, hlt, hc⟩
theorem infoModel2 : (Tryz.prog.info? 25).map (·.size) = some 2 := by kernel_rfl
theorem one_model (n : Int) (A : Option Addr) (m c : Nat) : (#[.int .i64 n, .slice A m c] : Array Value).all (·.oneCell') = true := by simp [Value.oneCell']
theorem below_setRowS {B : Nat} {w X : World} {g : Nat} {cs : Array Value} (h : Below B w X) (hg : B ≤ g) : Below B w (X.setRow g cs) :=
  ⟨h.os, h.tape, h.output, by rw [show (X.setRow g cs).heap.size = X.heap.size from by simp [World.setRow]]; exact h.size, fun i hi => (setRow_other X g i cs (by omega)).trans (h.block i hi)⟩
theorem Row.rowLo {w : World} {g lo hi s n c : Nat} {cs : Array Value} {A : Option Addr} {xs : List Value} (h : Row w lo hi s A n c xs) (hg : g < lo) : Row (w.setRow g cs) lo hi s A n c xs :=
  ⟨h.1, h.2.1, h.2.2.1, fun hn => by
    obtain ⟨b, o, e, h1, h2, hc⟩ := h.2.2.2 hn
    exact ⟨b, o, e, h1, h2, fun j u hu => (World.cell?_of_block (a := ⟨b, o + j, none⟩) (setRow_other w g b cs (by omega))).trans (hc j u hu)⟩⟩
theorem NodesIn.rowLo {w : World} {g lo hi n c : Nat} {cs : Array Value} {A : Option Addr} {nds : List Nd} (h : NodesIn w lo hi A n c nds) (hg : g < lo) : NodesIn (w.setRow g cs) lo hi A n c nds :=
  ⟨h.1, h.2.1, h.2.2.1, fun hn => by
    obtain ⟨b, o, e, h1, h2, V, hc⟩ := h.2.2.2 hn
    exact ⟨b, o, e, h1, h2, V, fun i nd hi => ⟨(hc i nd hi).1.keep (fun x => World.cell?_of_block (a := ⟨b, x, none⟩) (setRow_other w g b cs (by omega))), ⟨(hc i nd hi).2.pn, (hc i nd hi).2.kn, (hc i nd hi).2.rn, (hc i nd hi).2.p.rowLo hg, (hc i nd hi).2.k.rowLo hg, (hc i nd hi).2.r.rowLo hg, (hc i nd hi).2.sz⟩⟩⟩⟩
theorem NodesIn.rowS {w : World} {g lo : Nat} {cs old : Array Value} {hi n c : Nat} {A : Option Addr} {nds : List Nd} (h : NodesIn w lo hi A n c nds) (hg : hi ≤ g) : NodesIn (w.setRow g cs) lo hi A n c nds :=
  h.keep fun b o hb => World.cell?_of_block (a := ⟨b, o, none⟩) (setRow_other w g b cs (by omega))
set_option maxRecDepth 20000 in
set_option maxHeartbeats 3200000 in
theorem model_any (w : World) (B0 B gr gm k : Nat) (v vw : Value) (l : List (Nd × Leaf)) (st : RS) (h : RIn B gr gm k v vw l st w) (h0 : st.next ≠ 0) (hB0 : B0 ≤ gr) :
    Calls Tryz.prog 20 #[.pointer (some ⟨gr, 0, none⟩)] w (ModelP B0 st w) := by
  have hres : Tryz.f20.results = #[.cell 2 25] := by kernel_rfl
  have hok := h.ok h0
  have hBw : B0 ≤ w.heap.size := Nat.le_trans hB0 (Nat.le_of_lt h.box.lt)
  have hgw := h.box.lt
  have H := Lib.hid h
  have HIS : Hid ((l.map (·.1.id)).Nodup) := Lib.hid (by have := hok.ds; rw [← h.nds, List.map_map] at this; exact this)
  have hln := hok.ln
  obtain ⟨A, c, rfl, hc1, hc2⟩ := h.v_form
  have HA0 : Hid (RIn B gr gm k (.slice A st.nds.length c) vw l st (w.alloc (.cells #[.int .i64 0, .slice none 0 0] 25))) := Lib.hid (h.after ((Below.refl _ _).alloc (Nat.le_refl _) _))
  have HR0 : Hid (Blk (w.alloc (.cells #[.int .i64 0, .slice none 0 0] 25)) w.heap.size 25 #[.int .i64 0, .slice none 0 0]) := Lib.hid (Blk.new _ _ _)
  have HB1 : Hid (Below w.heap.size w (w.alloc (.cells #[.int .i64 0, .slice none 0 0] 25))) := Lib.hid ((Below.refl _ _).alloc (Nat.le_refl _) _)
  clear h hok h0
  by_cases hn : st.nds.length = 0
  · have HSN : Hid (sortV st.nds = []) := Lib.hid (by rw [List.eq_nil_of_length_eq_zero hn]; rfl)
    rw [hn] at HA0
    have HCM := Lib.hid fun Y => sortNone_any A c (.func (.func 48) #[] #[]) Y
    go_enter Tryz.func20, Tryz.ntmps20
    go_upto_region 1 with (fail)
    generalize w.alloc (.cells #[.int .i64 0, .slice none 0 0] 25) = W0 at HA0 HR0 HB1 ⊢
    have c1 := (rd_cells HA0.out.box).2.1
    go_upto_region 2 with (go_at_call 47; refine (HCM.out _).mono ?_; rintro e w1 ⟨rfl, rfl⟩)
    have HBX : Hid (Blk W0.drew gr 45 #[.int .i64 st.next, .slice A 0 c, .map (some gm), .int .i64 (rootV st), vw]) := Lib.hid (HA0.out.box.after (drewS_below _))
    have HRB : Hid (Blk W0.drew w.heap.size 25 #[.int .i64 0, .slice none 0 0]) := Lib.hid (HR0.out.after (drewS_below _))
    have HEND : Hid (ModelP B0 st w (.returned (.agg #[.int .i64 st.next, .slice A 0 c])) (W0.drew.setRow w.heap.size #[.int .i64 st.next, .slice A 0 c])) := Lib.hid ⟨A, 0, c, rfl, by rw [HSN.out]; exact ⟨rfl, Nat.zero_le _, hc2, fun h => absurd h (by omega)⟩, (below_setRowS (HB1.out.trans ((drewS_below _).mono HB1.out.size)) (Nat.le_refl _)).mono hBw⟩
    clear c1
    refine wp_region_held_tail 9 (fun Y => Y.cell? ⟨gr, 0, none⟩ = some (.int .i64 st.next) ∧ Y.cell? ⟨gr, 1, none⟩ = some (.slice A 0 c)) (by kernel_rfl) (by kernel_rfl) ?hS (fun hHeld => ?qm)
    case hS => exact ⟨(rd_cells HBX.out).1, (rd_cells HBX.out).2.1⟩
    case qm =>
      simp only [List.take_succ_cons, List.take_zero, List.drop_succ_cons, List.drop_zero]
      refine wpAnyH_take (i := 0) (oi := ⟨some 8, _, _, _, _, _⟩) (v := (.pointer (some ⟨gr, 0, none⟩))) rfl (by kernel_rfl) (by kernel_rfl) (by kernel_rfl) (fun _ _ _ h => h) (Or.inl ⟨by rfl, ?ym_1⟩) (by assumption) ?qm_1
      case ym_1 => (intro w hSw; (try dsimp only at hSw); go_simp)
      case qm_1 =>
        (try simp only [Act.put]); (try simp only [List.setIfInBounds_toArray])
        refine wpAnyH_take (i := 1) (oi := ⟨some 9, _, _, _, _, _⟩) (v := (.pointer (some ⟨gr, 0, none⟩))) rfl (by kernel_rfl) (by kernel_rfl) (by kernel_rfl) (fun _ _ _ h => h) (Or.inl ⟨by rfl, ?ym_2⟩) (by assumption) ?qm_2
        case ym_2 => (intro w hSw; (try dsimp only at hSw); go_simp)
        case qm_2 =>
          (try simp only [Act.put]); (try simp only [List.setIfInBounds_toArray])
          refine wpAnyH_take (i := 2) (oi := ⟨some 10, _, _, _, _, _⟩) (v := (.pointer (some ⟨gr, 0, none⟩))) rfl (by kernel_rfl) (by kernel_rfl) (by kernel_rfl) (fun _ _ _ h => h) (Or.inl ⟨by rfl, ?ym_3⟩) (by assumption) ?qm_3
          case ym_3 => (intro w hSw; (try dsimp only at hSw); go_simp)
          case qm_3 =>
            (try simp only [Act.put]); (try simp only [List.setIfInBounds_toArray])
            refine wpAnyH_take (i := 3) (oi := ⟨some 11, _, _, _, _, _⟩) (v := (.int .i64 st.next)) rfl (by kernel_rfl) (by kernel_rfl) (by kernel_rfl) (fun _ _ _ h => h) (Or.inl ⟨by rfl, ?ym_4⟩) (by assumption) ?qm_4
            case ym_4 => (intro w hSw; (try dsimp only at hSw); go_simp)
            case qm_4 =>
              (try simp only [Act.put]); (try simp only [List.setIfInBounds_toArray])
              refine wpAnyH_take (i := 4) (oi := ⟨some 12, _, _, _, _, _⟩) (v := (.pointer (some ⟨gr, 0, none⟩))) rfl (by kernel_rfl) (by kernel_rfl) (by kernel_rfl) (fun _ _ _ h => h) (Or.inl ⟨by rfl, ?ym_5⟩) (by assumption) ?qm_5
              case ym_5 => (intro w hSw; (try dsimp only at hSw); go_simp)
              case qm_5 =>
                (try simp only [Act.put]); (try simp only [List.setIfInBounds_toArray])
                refine wpAnyH_take (i := 5) (oi := ⟨some 13, _, _, _, _, _⟩) (v := (.pointer (some ⟨gr, 0, none⟩))) rfl (by kernel_rfl) (by kernel_rfl) (by kernel_rfl) (fun _ _ _ h => h) (Or.inl ⟨by rfl, ?ym_6⟩) (by assumption) ?qm_6
                case ym_6 => (intro w hSw; (try dsimp only at hSw); go_simp)
                case qm_6 =>
                  (try simp only [Act.put]); (try simp only [List.setIfInBounds_toArray])
                  refine wpAnyH_take (i := 6) (oi := ⟨some 14, _, _, _, _, _⟩) (v := (.pointer (some ⟨gr, 1, none⟩))) rfl (by kernel_rfl) (by kernel_rfl) (by kernel_rfl) (fun _ _ _ h => h) (Or.inl ⟨by rfl, ?ym_7⟩) (by assumption) ?qm_7
                  case ym_7 => (intro w hSw; (try dsimp only at hSw); go_simp)
                  case qm_7 =>
                    (try simp only [Act.put]); (try simp only [List.setIfInBounds_toArray])
                    refine wpAnyH_take (i := 7) (oi := ⟨some 15, _, _, _, _, _⟩) (v := (.slice A 0 c)) rfl (by kernel_rfl) (by kernel_rfl) (by kernel_rfl) (fun _ _ _ h => h) (Or.inl ⟨by rfl, ?ym_8⟩) (by assumption) ?qm_8
                    case ym_8 => (intro w hSw; (try dsimp only at hSw); go_simp)
                    case qm_8 =>
                      (try simp only [Act.put]); (try simp only [List.setIfInBounds_toArray])
                      refine wpAnyH_take (i := 8) (oi := ⟨some 16, _, _, _, _, _⟩) (v := (.agg #[.int .i64 st.next, .slice A 0 c])) rfl (by kernel_rfl) (by kernel_rfl) (by kernel_rfl) (fun _ _ _ h => h) (Or.inl ⟨by rfl, ?ym_9⟩) (by assumption) ?qm_9
                      case ym_9 => (intro w hSw; (try dsimp only at hSw); go_simp)
                      case qm_9 =>
                        (try simp only [Act.put]); (try simp only [List.setIfInBounds_toArray])
                        refine wpAnyH_done (by kernel_rfl) ?_ _
                        clear hHeld
                        show wpList _ _ _ _ _ _
                        refine wpList_store_row (o := ⟨none, _, _, _, _, _⟩) rfl _ (.tmp 2) (.tmp 16) rfl w.heap.size #[.int .i64 st.next, .slice A 0 c] (by go_simp) (by go_simp) 25 #[.int .i64 0, .slice none 0 0] HRB.out infoModel2 rfl (one_model _ _ _ _) ?_
                        go_wp2_with fail
                        (try simp only [Exit.inBlock, Exit.then])
                        refine bodyPost_ret (results_cell_row hres _ _ w.heap.size 25 _ (0, 0) _ (by go_simp) (setRow_heap _ _ _ _ _ _ HRB.out) Tryz.underlying25 rfl infoModel2) rfl ?_
                        exact HEND.out
  · have ho := HA0.out.np.own
    unfold OwnN at ho
    rw [HA0.out.len] at ho
    obtain ⟨g, rfl, hgB⟩ := own_addrB ho (by omega)
    clear ho
    generalize hnl : st.nds.length = n1 at HA0 HR0 HB1 hc1 hln hn
    have HLX : Hid (l.length = n1) := Lib.hid (by rw [H.out.len, hnl])
    have HNL := Lib.hid hnl
    clear hnl
    go_enter Tryz.func20, Tryz.ntmps20
    go_upto_region 1 with (fail)
    generalize w.alloc (.cells #[.int .i64 0, .slice none 0 0] 25) = W0 at HA0 HR0 HB1 ⊢
    have c1 := (rd_cells HA0.out.box).2.1
    have HCM := Lib.hid (sortNodes_any W0 B g n1 c l HA0.out.np.own HLX.out hln HIS.out)
    go_upto_region 2 with (go_at_call 47; refine HCM.out.mono ?_; rintro e w1 ⟨rfl, hg1, l', hp, hm, hat⟩)
    have hown : W0.ownsRow B 55 7 (.slice (some ⟨g, 0, none⟩) n1 c) l.length (allCells l) := HA0.out.np.own
    have HBX : Hid (Blk w1.drew gr 45 #[.int .i64 st.next, .slice (some ⟨g, 0, none⟩) n1 c, .map (some gm), .int .i64 (rootV st), vw]) := Lib.hid ((HA0.out.box.grown hg1 (Ne.symm (own_blk_ne hown HA0.out.box (by decide)))).after (drewS_below _))
    have HRB : Hid (Blk w1.drew w.heap.size 25 #[.int .i64 0, .slice none 0 0]) := Lib.hid ((HR0.out.grown hg1 (Ne.symm (own_blk_ne hown HR0.out (by decide)))).after (drewS_below _))
    have HGW : Hid (g < w.heap.size) := Lib.hid (World.ownsRow.lt H.out.np.own g rfl).2
    have HBB : Hid (Below B0 w w1) := Lib.hid (below_own (HB1.out.mono hBw) (Nat.le_trans hBw HB1.out.size) hg1 fun x hx => by obtain rfl := Option.some.inj hx; have := H.out.lr; omega)
    have HBlo : Hid (B0 ≤ B) := Lib.hid (by have := H.out.lr; omega)
    have HNI : Hid (NodesIn w1 B0 w.heap.size (some ⟨g, 0, none⟩) n1 c (sortV st.nds)) := Lib.hid (by
      have hlf : ∀ p ∈ l, LeafIn w1 B0 w.heap.size p.1 p.2 := fun p hpm => by
        have h1 := (H.out.np.leaf p hpm).leafIn.mono HBlo.out (Nat.le_refl _)
        have h2 := HA0.out.np.leaf p hpm
        exact ⟨h1.pn, h1.kn, h1.rn, leaf_row (v := .slice (some ⟨g, 0, none⟩) n1 c) HB1.out hg1 h1.p h2.p hown (by decide), leaf_row (v := .slice (some ⟨g, 0, none⟩) n1 c) HB1.out hg1 h1.k h2.k hown (by decide), leaf_row (v := .slice (some ⟨g, 0, none⟩) n1 c) HB1.out hg1 h1.r h2.r hown (by decide), h1.sz⟩
      rw [← H.out.nds, ← hm]
      refine ⟨by rw [List.length_map, hp.length_eq, HLX.out], hc1, hc2, fun h0 => ⟨g, 0, rfl, Nat.le_trans HBlo.out hgB, HGW.out, fun i => (l'.getD i default).2, fun i nd hi => ?_⟩⟩
      rw [List.getElem?_map] at hi
      obtain ⟨p, hpi, rfl⟩ := Option.map_eq_some_iff.1 hi
      have e : l'.getD i default = p := by rw [List.getD_eq_getElem?_getD, hpi]; rfl
      simp only [e, Nat.zero_add]
      exact ⟨hat i p hpi, hlf p (hp.mem_iff.1 (List.mem_of_getElem? hpi))⟩)
    have HEND : Hid (ModelP B0 st w (.returned (.agg #[.int .i64 st.next, .slice (some ⟨g, 0, none⟩) n1 c])) (w1.drew.setRow w.heap.size #[.int .i64 st.next, .slice (some ⟨g, 0, none⟩) n1 c])) := Lib.hid ⟨_, n1, c, rfl, by
      have h2 : NodesIn w1.drew B0 w.heap.size (some ⟨g, 0, none⟩) n1 c (sortV st.nds) := HNI.out.keep fun _ _ _ => rfl
      exact (NodesIn.rowS (old := #[]) h2 (Nat.le_refl _)).mono (Nat.le_refl _) (by rw [show (w1.drew.setRow w.heap.size #[.int .i64 st.next, .slice (some ⟨g, 0, none⟩) n1 c]).heap.size = w1.heap.size from by simp [World.setRow]]; exact Nat.le_of_lt (HRB.out.lt)), below_setRowS (HBB.out.trans ((drewS_below w1).mono (Nat.le_trans hBw (Nat.le_trans HB1.out.size hg1.size)))) hBw⟩
    clear c1 hg1 hp hm hat hown
    refine wp_region_held_tail 9 (fun Y => Y.cell? ⟨gr, 0, none⟩ = some (.int .i64 st.next) ∧ Y.cell? ⟨gr, 1, none⟩ = some (.slice (some ⟨g, 0, none⟩) n1 c)) (by kernel_rfl) (by kernel_rfl) ?hS (fun hHeld => ?qm)
    case hS => exact ⟨(rd_cells HBX.out).1, (rd_cells HBX.out).2.1⟩
    case qm =>
      simp only [List.take_succ_cons, List.take_zero, List.drop_succ_cons, List.drop_zero]
      refine wpAnyH_take (i := 0) (oi := ⟨some 8, _, _, _, _, _⟩) (v := (.pointer (some ⟨gr, 0, none⟩))) rfl (by kernel_rfl) (by kernel_rfl) (by kernel_rfl) (fun _ _ _ h => h) (Or.inl ⟨by rfl, ?ym_1⟩) (by assumption) ?qm_1
      case ym_1 => (intro w hSw; (try dsimp only at hSw); go_simp)
      case qm_1 =>
        (try simp only [Act.put]); (try simp only [List.setIfInBounds_toArray])
        refine wpAnyH_take (i := 1) (oi := ⟨some 9, _, _, _, _, _⟩) (v := (.pointer (some ⟨gr, 0, none⟩))) rfl (by kernel_rfl) (by kernel_rfl) (by kernel_rfl) (fun _ _ _ h => h) (Or.inl ⟨by rfl, ?ym_2⟩) (by assumption) ?qm_2
        case ym_2 => (intro w hSw; (try dsimp only at hSw); go_simp)
        case qm_2 =>
          (try simp only [Act.put]); (try simp only [List.setIfInBounds_toArray])
          refine wpAnyH_take (i := 2) (oi := ⟨some 10, _, _, _, _, _⟩) (v := (.pointer (some ⟨gr, 0, none⟩))) rfl (by kernel_rfl) (by kernel_rfl) (by kernel_rfl) (fun _ _ _ h => h) (Or.inl ⟨by rfl, ?ym_3⟩) (by assumption) ?qm_3
          case ym_3 => (intro w hSw; (try dsimp only at hSw); go_simp)
          case qm_3 =>
            (try simp only [Act.put]); (try simp only [List.setIfInBounds_toArray])
            refine wpAnyH_take (i := 3) (oi := ⟨some 11, _, _, _, _, _⟩) (v := (.int .i64 st.next)) rfl (by kernel_rfl) (by kernel_rfl) (by kernel_rfl) (fun _ _ _ h => h) (Or.inl ⟨by rfl, ?ym_4⟩) (by assumption) ?qm_4
            case ym_4 => (intro w hSw; (try dsimp only at hSw); go_simp)
            case qm_4 =>
              (try simp only [Act.put]); (try simp only [List.setIfInBounds_toArray])
              refine wpAnyH_take (i := 4) (oi := ⟨some 12, _, _, _, _, _⟩) (v := (.pointer (some ⟨gr, 0, none⟩))) rfl (by kernel_rfl) (by kernel_rfl) (by kernel_rfl) (fun _ _ _ h => h) (Or.inl ⟨by rfl, ?ym_5⟩) (by assumption) ?qm_5
              case ym_5 => (intro w hSw; (try dsimp only at hSw); go_simp)
              case qm_5 =>
                (try simp only [Act.put]); (try simp only [List.setIfInBounds_toArray])
                refine wpAnyH_take (i := 5) (oi := ⟨some 13, _, _, _, _, _⟩) (v := (.pointer (some ⟨gr, 0, none⟩))) rfl (by kernel_rfl) (by kernel_rfl) (by kernel_rfl) (fun _ _ _ h => h) (Or.inl ⟨by rfl, ?ym_6⟩) (by assumption) ?qm_6
                case ym_6 => (intro w hSw; (try dsimp only at hSw); go_simp)
                case qm_6 =>
                  (try simp only [Act.put]); (try simp only [List.setIfInBounds_toArray])
                  refine wpAnyH_take (i := 6) (oi := ⟨some 14, _, _, _, _, _⟩) (v := (.pointer (some ⟨gr, 1, none⟩))) rfl (by kernel_rfl) (by kernel_rfl) (by kernel_rfl) (fun _ _ _ h => h) (Or.inl ⟨by rfl, ?ym_7⟩) (by assumption) ?qm_7
                  case ym_7 => (intro w hSw; (try dsimp only at hSw); go_simp)
                  case qm_7 =>
                    (try simp only [Act.put]); (try simp only [List.setIfInBounds_toArray])
                    refine wpAnyH_take (i := 7) (oi := ⟨some 15, _, _, _, _, _⟩) (v := (.slice (some ⟨g, 0, none⟩) n1 c)) rfl (by kernel_rfl) (by kernel_rfl) (by kernel_rfl) (fun _ _ _ h => h) (Or.inl ⟨by rfl, ?ym_8⟩) (by assumption) ?qm_8
                    case ym_8 => (intro w hSw; (try dsimp only at hSw); go_simp)
                    case qm_8 =>
                      (try simp only [Act.put]); (try simp only [List.setIfInBounds_toArray])
                      refine wpAnyH_take (i := 8) (oi := ⟨some 16, _, _, _, _, _⟩) (v := (.agg #[.int .i64 st.next, .slice (some ⟨g, 0, none⟩) n1 c])) rfl (by kernel_rfl) (by kernel_rfl) (by kernel_rfl) (fun _ _ _ h => h) (Or.inl ⟨by rfl, ?ym_9⟩) (by assumption) ?qm_9
                      case ym_9 => (intro w hSw; (try dsimp only at hSw); go_simp)
                      case qm_9 =>
                        (try simp only [Act.put]); (try simp only [List.setIfInBounds_toArray])
                        refine wpAnyH_done (by kernel_rfl) ?_ _
                        clear hHeld
                        show wpList _ _ _ _ _ _
                        refine wpList_store_row (o := ⟨none, _, _, _, _, _⟩) rfl _ (.tmp 2) (.tmp 16) rfl w.heap.size #[.int .i64 st.next, .slice (some ⟨g, 0, none⟩) n1 c] (by go_simp) (by go_simp) 25 #[.int .i64 0, .slice none 0 0] HRB.out infoModel2 rfl (one_model _ _ _ _) ?_
                        go_wp2_with fail
                        (try simp only [Exit.inBlock, Exit.then])
                        refine bodyPost_ret (results_cell_row hres _ _ w.heap.size 25 _ (0, 0) _ (by go_simp) (setRow_heap _ _ _ _ _ _ HRB.out) Tryz.underlying25 rfl infoModel2) rfl ?_
                        exact HEND.out
end Go.Proofs.YtjjlofaejpnnnaaGreatDoor

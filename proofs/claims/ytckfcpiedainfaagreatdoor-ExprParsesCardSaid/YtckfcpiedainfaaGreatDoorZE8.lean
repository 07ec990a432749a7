/-
  MEMORY OF THE CALL's OWN: slices that were built, their cells, what they read as; lists that were lent, with a mark behind.
  WALKS over package lex: the marks ahead, isMark, a name, what stands apart, an int's digits.
  WALKS: the document's Show and Int.
-/
import Derived.Test.YtckfcpiedainfaaGreatDoorZE7
import Derived.Deep.AppendLies
import Derived.Deep.RegionHeld3
import Derived.Maps.AppendAt
namespace Go.Proofs.YtckfcpiedainfaaGreatDoor
open Go Go.RowKit Go.Sort
set_option linter.unusedVariables false
theorem flatN_get {α : Type} {f : α → List Value} {s : Nat} (hs : ∀ a, (f a).length = s) (l : List α) : ∀ (i : Nat) (p : α), l[i]? = some p → ∀ j, j < s → (l.flatMap f)[i * s + j]? = (f p)[j]? := by
  induction l with
  | nil => intro i p h; simp at h
  | cons q l ih =>
    intro i p h j hj
    have hq := hs q
    rw [List.flatMap_cons]
    match i, h with
    | 0, h =>
      obtain rfl : q = p := by simpa using h
      rw [Nat.zero_mul, Nat.zero_add, List.getElem?_append_left (by omega)]
    | i + 1, h =>
      have := ih i p (by simpa using h) j hj
      rw [Nat.succ_mul, List.getElem?_append_right (by omega), hq]
      rw [show i * s + s + j - s = i * s + j from by omega]
      exact this
theorem flatN_len {α : Type} {f : α → List Value} {s : Nat} (hs : ∀ a, (f a).length = s) (l : List α) : (l.flatMap f).length = l.length * s := by
  induction l with
  | nil => simp
  | cons q l ih => rw [List.flatMap_cons, List.length_append, ih, hs, List.length_cons, Nat.succ_mul]; omega
theorem intCells_one (l : List Int) : ∀ u ∈ intCells l, u.oneCell' = true := by
  intro u hu
  obtain ⟨p, _, rfl⟩ := List.mem_map.1 hu
  rfl
section
variable {w w' : World} {B : Nat} {e : TypeId} {size n : Nat} {v : Value} {xs : List Value}
/-- an own row reads as a row -/
theorem own_row {A : Option Addr} {c : Nat} (h : w.ownsRow B e size (.slice A n c) n xs) : Row w B w.heap.size size A n c xs := by
  refine ⟨h.1, ?_⟩
  rcases h.2 with ⟨hv, hn⟩ | ⟨g, cap, cur, hv, hb, hg, hn, hm, _, _⟩
  · injection hv with h1 h2 h3
    subst hn
    exact ⟨by omega, by unfold maxLen; omega, fun h => absurd h (by omega)⟩
  · injection hv with h1 h2 h3
    subst h3
    refine ⟨hn, hm, fun h0 => ⟨g, 0, h1, hb, (Array.getElem?_eq_some_iff.1 hg).1, fun j u hu => ?_⟩⟩
    subst h1
    have := World.ownsRow.cells h (g := g) rfl j u hu
    simpa [Addr.add_lit] using this
theorem own_after (h : w.ownsRow B e size v n xs) (hb : Below w.heap.size w w') : w'.ownsRow B e size v n xs := by
  refine ⟨h.1, ?_⟩
  rcases h.2 with hn | ⟨g, cap, cur, rfl, hbg, hgg, rest⟩
  · exact .inl hn
  · refine .inr ⟨g, cap, cur, rfl, hbg, ?_, rest⟩
    rw [hb.block g (Array.getElem?_eq_some_iff.1 hgg).1]
    exact hgg
/-- .. while a block of another type is written -/
theorem own_other {g : Nat} {t : TypeId} {cs : Array Value} (h : w.ownsRow B e size v n xs) (hg : Blk w g t cs) (hne : e ≠ t) (i : Nat) (u : Value) : (w.setCell ⟨g, i, none⟩ u).ownsRow B e size v n xs := by
  refine ⟨h.1, ?_⟩
  rcases h.2 with hn | ⟨g', cap, cur, rfl, hbg, hgg, rest⟩
  · exact .inl hn
  · refine .inr ⟨g', cap, cur, rfl, hbg, ?_, rest⟩
    have hne' : g' ≠ g := Blk.ne_ (t := e) hgg hg hne
    rw [Below.heap_setCell _ ⟨g, i, none⟩ _ _ hne']
    exact hgg
theorem own_blk_ne {g : Nat} {t : TypeId} {cs : Array Value} (h : w.ownsRow B e size v n xs) (hg : Blk w g t cs) (hne : e ≠ t) : v.ownBlock ≠ some g := by
  rcases h.2 with ⟨rfl, _⟩ | ⟨g', cap, cur, rfl, _, hh, _⟩
  · simp [Value.ownBlock]
  · intro he
    have : g' = g := by simpa [Value.ownBlock] using he
    subst this
    exact Blk.ne_ (t := e) hh hg hne rfl
theorem own_own_ne {B' : Nat} {e' : TypeId} {size' n' : Nat} {v' : Value} {xs' : List Value} (h : w.ownsRow B e size v n xs) (h' : w.ownsRow B' e' size' v' n' xs') (hne : e ≠ e') : v.ownBlock = none ∨ v.ownBlock ≠ v'.ownBlock := by
  rcases h.2 with ⟨rfl, _⟩ | ⟨g, cap, cur, rfl, _, hh, _⟩
  · exact .inl rfl
  · right
    rcases h'.2 with ⟨rfl, _⟩ | ⟨g', cap', cur', rfl, _, hh', _⟩
    · simp [Value.ownBlock]
    · intro he
      have : g = g' := by simpa [Value.ownBlock] using he
      subst this
      exact Blk.ne_ (t := e) hh hh' hne rfl
theorem own_mono {B' : Nat} (h : w.ownsRow B e size v n xs) (hB : B' ≤ B) : w.ownsRow B' e size v n xs := by
  refine ⟨h.1, ?_⟩
  rcases h.2 with hn | ⟨g, cap, cur, hv, hb, rest⟩
  · exact .inl hn
  · exact .inr ⟨g, cap, cur, hv, by omega, rest⟩
/-- a new, empty one, with whatever room -/
theorem own_empty {g : Nat} (hg : w.heap[g]? = some (.cells #[] e (0, 0))) (hB : B ≤ g) : w.ownsRow B e size (.slice (some ⟨g, 0, none⟩) 0 0) 0 [] :=
  ⟨by simp, .inr ⟨g, 0, #[], rfl, hB, hg, Nat.le_refl _, by unfold maxLen; omega, by simp, by simp⟩⟩
end
/-- a block that is known whole, as a row -/
theorem row_blk {w : World} {g n c size : Nat} {e : TypeId} {fr : Nat × Nat} {cs : Array Value} (hg : w.heap[g]? = some (.cells cs e fr)) (hs : cs.size = n * size) (hn : n ≤ c) (hc : c ≤ maxLen) : Row w g (g + 1) size (some ⟨g, 0, none⟩) n c cs.toList :=
  ⟨by simpa using hs, hn, hc, fun _ => ⟨g, 0, rfl, Nat.le_refl _, Nat.lt_succ_self _, fun j u hu => by
    rw [cell_of_row w g (0 + j) cs e fr hg, Nat.zero_add]; simpa using hu⟩⟩
section
variable {P : Program} (w : World)
theorem run_app_nil (base : Nat) (t ty e : TypeId) (i : TypeInfo) (size : Nat) (ht : P.underlying t = some (.slice e)) (hi : P.info? e = some i)
    (v : Value) (n : Nat) (xs : List Value) (hown : w.ownsRow base e size v n xs) (c : Nat) : (Builtin.append_ #[t, t] ty #[v, .slice none 0 c]).run P w = .ok v w := by
  rcases hown.2 with ⟨rfl, rfl⟩ | ⟨g, cap, cur, rfl, _, _, hnc, _⟩
  · simp [Builtin.append_, run_underlying ht, sizeOf, typeInfo, hi, Builtin.lenOf, Builtin.firstCells]
  · simp [Builtin.append_, run_underlying ht, sizeOf, typeInfo, hi, Builtin.lenOf, Builtin.firstCells, hnc, storeCells]
theorem run_app (base : Nat) (t ty e : TypeId) (i : TypeInfo) (z : Value) (size bytes : Nat) (ht : P.underlying t = some (.slice e)) (hi : P.info? e = some i) (hz : i.zero = some z)
    (hsize : i.size = size) (hby : i.bytes = bytes) (hzs : z.cells.size = size) (hsz : 0 < size)
    (v : Value) (n : Nat) (xs : List Value) (hown : w.ownsRow base e size v n xs)
    (lo hi' : Nat) (A : Option Addr) (m c : Nat) (news : List Value) (hr : Row w lo hi' size A m c news) (h1 : ∀ u ∈ news, u.oneCell' = true)
    (h63 : n + m ≤ maxLen) (hbytes : (n + m) * bytes ≤ 140737488355328) (hbase : base ≤ w.heap.size) :
    ∃ v' w', (Builtin.append_ #[t, t] ty #[v, .slice A m c]).run P w = .ok v' w' ∧ w'.ownsRow base e size v' (n + m) (xs ++ news) ∧ w.grownBy w' v.ownBlock ∧
      (v'.ownBlock = v.ownBlock ∨ v'.ownBlock = some w.heap.size) := by
  rcases A with _ | ad
  · have hm : m = 0 := by
      rcases Nat.eq_zero_or_pos m with h0 | h0
      · exact h0
      · obtain ⟨b, o, h, _⟩ := hr.2.2.2 h0
        cases h
    subst hm
    have hn : news = [] := List.eq_nil_of_length_eq_zero (by simpa using hr.1)
    subst hn
    exact ⟨v, w, run_app_nil w base t ty e i size ht hi v n xs hown c, by simpa using hown, World.grownBy.refl w _, .inl rfl⟩
  · have hcells : ∀ j u, news[j]? = some u → w.cell? (ad.add j) = some u := by
      intro j u hu
      rcases Nat.eq_zero_or_pos m with h0 | h0
      · subst h0
        have hn : news = [] := List.eq_nil_of_length_eq_zero (by simpa using hr.1)
        subst hn
        simp at hu
      · obtain ⟨b, o, h, _, _, hc⟩ := hr.2.2.2 h0
        injection h with h
        subst h
        rw [Addr.add_lit]
        exact hc j u hu
    obtain ⟨v', w', hrun, h2, h3, _, h5⟩ := run_append_own_at (P := P) w base t ty e i z size bytes ht hi hz hsize hby hzs hsz v n xs hown ad m c news hr.1 hcells h1 h63 hbytes hbase
    exact ⟨v', w', hrun, h2, h3, h5⟩
theorem wp_app {o : Oper} {a : Act} {K : Act → World → Prop} {Q : Exit → Act → World → Prop} (s x : Operand) (t : TypeId)
    (ho : o.op = .call { callee := .builtin .append, args := #[s, x], argTypes := #[t, t] })
    (base : Nat) (e : TypeId) (i : TypeInfo) (z : Value) (size bytes : Nat) (ht : P.underlying t = some (.slice e)) (hi : P.info? e = some i) (hz : i.zero = some z)
    (hsize : i.size = size) (hby : i.bytes = bytes) (hzs : z.cells.size = size) (hsz : 0 < size)
    (v : Value) (n : Nat) (xs : List Value) (hs : a.eval s = v) (hown : w.ownsRow base e size v n xs)
    (lo hi' : Nat) (A : Option Addr) (m c : Nat) (news : List Value) (hx : a.eval x = .slice A m c) (hr : Row w lo hi' size A m c news) (h1 : ∀ u ∈ news, u.oneCell' = true)
    (h63 : n + m ≤ maxLen) (hbytes : (n + m) * bytes ≤ 140737488355328) (hbase : base ≤ w.heap.size)
    (h : ∀ v' w', w'.ownsRow base e size v' (n + m) (xs ++ news) → w.grownBy w' v.ownBlock → (v'.ownBlock = v.ownBlock ∨ v'.ownBlock = some w.heap.size) → K (a.put o.dst v') w') : o.wp P a w K Q := by
  obtain ⟨v', w', hrun, h2, h3, h4⟩ := run_app (P := P) w base t o.type e i z size bytes ht hi hz hsize hby hzs hsz v n xs hown lo hi' A m c news hr h1 h63 hbytes hbase
  unfold Oper.wp execOp
  simp only [ho, resolve, invoke, builtin, Sem.run_bind, Sem.run_pure, Result.andThen_ok, List.map_toArray, List.map_cons, List.map_nil, hs, hx, hrun]
  exact h v' w' h2 h3 h4
/-- append as the walk takes it, in a plain region -/
theorem wpList_app {ops : Array Oper} {rest : List Oper} {o : Oper} {a : Act} {Q : Exit → Act → World → Prop} (hgd : o.guard = none) (s x : Operand) (t : TypeId)
    (ho : o.op = .call { callee := .builtin .append, args := #[s, x], argTypes := #[t, t] })
    (base : Nat) (e : TypeId) (i : TypeInfo) (z : Value) (size bytes : Nat) (ht : P.underlying t = some (.slice e)) (hi : P.info? e = some i) (hz : i.zero = some z)
    (hsize : i.size = size) (hby : i.bytes = bytes) (hzs : z.cells.size = size) (hsz : 0 < size)
    (v : Value) (n : Nat) (xs : List Value) (hs : a.eval s = v) (hown : w.ownsRow base e size v n xs)
    (lo hi' : Nat) (A : Option Addr) (m c : Nat) (news : List Value) (hx : a.eval x = .slice A m c) (hr : Row w lo hi' size A m c news) (h1 : ∀ u ∈ news, u.oneCell' = true)
    (h63 : n + m ≤ maxLen) (hbytes : (n + m) * bytes ≤ 140737488355328) (hbase : base ≤ w.heap.size)
    (h : ∀ v' w', w'.ownsRow base e size v' (n + m) (xs ++ news) → w.grownBy w' v.ownBlock → (v'.ownBlock = v.ownBlock ∨ v'.ownBlock = some w.heap.size) → wpList P ops Q rest (a.put o.dst v') w') : wpList P ops Q (o :: rest) a w :=
  wpList_plain hgd fun _ hK => wp_app w s x t ho base e i z size bytes ht hi hz hsize hby hzs hsz v n xs hs hown lo hi' A m c news hx hr h1 h63 hbytes hbase fun v' w' h2 h3 h4 => hK _ _ (h v' w' h2 h3 h4)
/-- .. as a step of a region that draws its order -/
theorem step_app {ops : Array Oper} {o : Oper} {a : Act} {K : Act → World → Prop} {Q : Exit → Act → World → Prop} {E : Prop} (hgd : o.guard = none) (s x : Operand) (t : TypeId)
    (ho : o.op = .call { callee := .builtin .append, args := #[s, x], argTypes := #[t, t] })
    (base : Nat) (e : TypeId) (i : TypeInfo) (z : Value) (size bytes : Nat) (ht : P.underlying t = some (.slice e)) (hi : P.info? e = some i) (hz : i.zero = some z)
    (hsize : i.size = size) (hby : i.bytes = bytes) (hzs : z.cells.size = size) (hsz : 0 < size)
    (v : Value) (n : Nat) (xs : List Value) (hs : a.eval s = v) (hown : w.ownsRow base e size v n xs)
    (lo hi' : Nat) (A : Option Addr) (m c : Nat) (news : List Value) (hx : a.eval x = .slice A m c) (hr : Row w lo hi' size A m c news) (h1 : ∀ u ∈ news, u.oneCell' = true)
    (h63 : n + m ≤ maxLen) (hbytes : (n + m) * bytes ≤ 140737488355328) (hbase : base ≤ w.heap.size)
    (h : ∀ v' w', w'.ownsRow base e size v' (n + m) (xs ++ news) → w.grownBy w' v.ownBlock → (v'.ownBlock = v.ownBlock ∨ v'.ownBlock = some w.heap.size) → K (a.put o.dst v') w') :
    if Region.wanted o (yielded ops a.tmps) = true then Oper.wp P o a w K Q else E := by
  have hw : Region.wanted o (yielded ops a.tmps) = true := by simp [Region.wanted, hgd]
  rw [if_pos hw]
  exact wp_app w s x t ho base e i z size bytes ht hi hz hsize hby hzs hsz v n xs hs hown lo hi' A m c news hx hr h1 h63 hbytes hbase h
end
end Go.Proofs.YtckfcpiedainfaaGreatDoor
namespace Go.Proofs.YtckfcpiedainfaaGreatDoor
open Go Go.RowKit
set_option linter.unusedVariables false
theorem ba_list' (s : ByteArray) : ba s.data.toList = s := by unfold ba; apply ByteArray.ext; simp
theorem ba_of {x : ByteArray} {l : List UInt8} (h : x.data.toList = l) : x = ba l := by rw [← h, ba_list']
theorem ba_data (l : List UInt8) : (ba l).data.toList = l := by simp [ba]
/-- so far: the longest mark, and how far -/
structure MarkAt (S : List UInt8) (k : Nat) (P : ByteArray) (G : Nat) : Prop where
  out : (marksL.take k).foldl (markStep S) ([], 0) = (P.data.toList, G)
  p2 : P.size ≤ 2
  g2 : G ≤ 2
theorem mark_size {k : Nat} {M : ByteArray} (h : IsAt marksL k M) : M.size ≤ 2 := by
  have := (marks_two _ (List.mem_of_getElem? h.out)).1
  rwa [toList_eq] at this
theorem MarkAt.step {S : List UInt8} {k G c : Nat} {P M : ByteArray} (h : MarkAt S k P G) (hm : IsAt marksL k M) (hc : common M.data.toList S = c) :
    MarkAt S (k + 1) (if c = M.size ∧ P.size < c then M else P) (max G c) := by
  obtain ⟨hk, e⟩ := List.getElem?_eq_some_iff.1 hm.out
  have hc2 : c ≤ 2 := by have := common_le_left M.data.toList S; rw [toList_eq] at this; have := mark_size hm; omega
  refine ⟨?_, ?_, ?_⟩
  · rw [List.take_succ_eq_append_getElem hk, List.foldl_append, h.out, e]
    simp only [List.foldl_cons, List.foldl_nil, markStep, hc, toList_eq]
    split <;> rfl
  · split
    · exact mark_size hm
    · exact h.p2
  · have := h.g2; omega
theorem MarkAt.step_yes {S : List UInt8} {k G c : Nat} {P M : ByteArray} (h : MarkAt S k P G) (hm : IsAt marksL k M) (hc : common M.data.toList S = c) (h1 : c = M.size) (h2 : P.size < c) : MarkAt S (k + 1) M (max G c) := by
  have := h.step hm hc; rwa [if_pos ⟨h1, h2⟩] at this
theorem MarkAt.step_no {S : List UInt8} {k G c : Nat} {P M : ByteArray} (h : MarkAt S k P G) (hm : IsAt marksL k M) (hc : common M.data.toList S = c) (h1 : ¬ (c = M.size ∧ P.size < c)) : MarkAt S (k + 1) P (max G c) := by
  have := h.step hm hc; rwa [if_neg h1] at this
theorem MarkAt.done {S : List UInt8} {k G : Nat} {P : ByteArray} (h : MarkAt S k P G) (hk : 16 ≤ k) : ahead S = (P.data.toList, G) := by
  have := h.out
  rwa [List.take_of_length_le hk] at this
def MarksTold (w : World) (r : List UInt8 × Nat) (e : Ending) (w' : World) : Prop := e = .returned (.tuple #[.string (ba r.1), .int .i64 r.2]) ∧ ∃ q, w' = w.drewN q
theorem marksTold_of {w : World} {S : List UInt8} {k G q : Nat} {P : ByteArray} (h : MarkAt S k P G) (hk : 16 ≤ k) : MarksTold w (ahead S) (.returned (.tuple #[.string P, .int .i64 G])) (w.drewN q) := by
  rw [h.done hk]
  exact ⟨by rw [ba_list'], q, rfl⟩
theorem ret_max {a b : Nat} : Value.int .i64 (max (a : Int) b) = .int .i64 ((max a b : Nat) : Int) := by congr 1; omega
set_option maxHeartbeats 800000 in
theorem markAhead_any (s : ByteArray) (w : World) (hs : s.size ≤ maxLen) (hE : LexEnv w) : Calls Tryz.prog 55 #[.string s] w (MarksTold w (ahead s.data.toList)) := by
  have hg := hE.marks
  clear hE
  obtain ⟨t, fr, hg⟩ := hg
  have hi := info84
  obtain ⟨V, hV⟩ : ∃ V, strsV marksL = V := ⟨_, rfl⟩
  rw [hV] at hg hi
  have HV : IsTab marksL V := ⟨hV⟩
  have HCM : Hid (∀ M w', M.size ≤ 2 → Calls Tryz.prog 78 #[.string M, .string s] w' (Commoned w' (common M.data.toList s.data.toList))) := Lib.hid fun M w' h => lexCommon_any M s w' (by unfold maxLen; omega) hs
  clear hV hs
  go_enter Tryz.func55, Tryz.ntmps55
  go_wp2_with (refine wpList_load_row rfl _ _ rfl 1 rfl t V fr _ hg Tryz.underlying127 rfl hi ?_)
  clear hi hg
  go_loopw [2, 3, 5, 6, 8] (fun m g x c i wr => ∃ (k : Nat) (P : ByteArray) (G : Nat), k ≤ 16 ∧ i = .int .i64 k ∧ m = .string P ∧ g = .int .i64 G ∧ MarkAt s.data.toList k P G ∧ ∃ q, wr = w.drewN q) (fun _ _ _ _ i _ => 16 - (intOf i).toNat)
  case atStart => exact ⟨0, ⟨#[]⟩, 0, by omega, rfl, rfl, rfl, ⟨rfl, by decide, by omega⟩, 0, rfl⟩
  case round =>
    obtain ⟨k, P, G, hk, rfl, rfl, rfl, HK, q, rfl⟩ := hrel
    by_cases hlt : k < 16
    · obtain ⟨M, HM, hc⟩ := HV.at_ (k := k) hlt
      clear HV
      have hM2 := mark_size HM
      have HC := Lib.hid (HCM.out M (w.drewN q) hM2)
      obtain ⟨c, hcc⟩ : ∃ c, common M.data.toList s.data.toList = c := ⟨_, rfl⟩
      rw [hcc] at HC
      have HCC := Lib.hid hcc
      clear hcc
      by_cases h1 : c = M.size
      · have e1 : ((c : Int) == (M.size : Int)) = true := by rw [beq_iff_eq]; omega
        by_cases h2 : P.size < c
        · have e2 : decide ((P.size : Int) < (c : Int)) = true := by simp; omega
          have HX := HK.step_yes HM HCC.out h1 h2
          clear h1
          go_wp2_with (first | (refine wpList_index_strs rfl _ _ _ rfl 16 V k M rfl rfl Tryz.underlying127 hlt hc ?_) | (go_at_call 78; refine HC.out.mono ?_; rintro e w' ⟨rfl, q', rfl⟩))
          all_goals first | exact ⟨⟨k + 1, M, _, by omega, by go_num, rfl, ret_max, HX, _, rfl⟩, by simp [intOf]; omega⟩ | (exfalso; omega)
        · have e2 : decide ((P.size : Int) < (c : Int)) = false := by simp; omega
          have HX := HK.step_no HM HCC.out (fun h => h2 h.2)
          clear h1
          go_wp2_with (first | (refine wpList_index_strs rfl _ _ _ rfl 16 V k M rfl rfl Tryz.underlying127 hlt hc ?_) | (go_at_call 78; refine HC.out.mono ?_; rintro e w' ⟨rfl, q', rfl⟩))
          all_goals first | exact ⟨⟨k + 1, P, _, by omega, by go_num, rfl, ret_max, HX, _, rfl⟩, by simp [intOf]; omega⟩ | (exfalso; omega)
      · have e1 : ((c : Int) == (M.size : Int)) = false := by rw [beq_eq_false_iff_ne]; omega
        have HX := HK.step_no HM HCC.out (fun h => h1 h.1)
        go_wp2_with (first | (refine wpList_index_strs rfl _ _ _ rfl 16 V k M rfl rfl Tryz.underlying127 hlt hc ?_) | (go_at_call 78; refine HC.out.mono ?_; rintro e w' ⟨rfl, q', rfl⟩))
        all_goals first | exact ⟨⟨k + 1, P, _, by omega, by go_num, rfl, ret_max, HX, _, rfl⟩, by simp [intOf]; omega⟩ | (exfalso; omega)
    · go_wp2
      go_ret2
      exact marksTold_of HK (by omega)
end Go.Proofs.YtckfcpiedainfaaGreatDoor
namespace Go.Proofs.YtckfcpiedainfaaGreatDoor
open Go Go.RowKit
set_option linter.unusedVariables false
theorem cat_list (a b : ByteArray) : (a ++ b).data.toList = a.data.toList ++ b.data.toList := by rw [ByteArray.data_append, Array.toList_append]
end Go.Proofs.YtckfcpiedainfaaGreatDoor

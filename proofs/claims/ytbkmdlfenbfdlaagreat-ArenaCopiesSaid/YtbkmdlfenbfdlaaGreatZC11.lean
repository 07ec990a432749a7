/-
  WALKS: slices.Insert into a list of a node's own, which has no room.
  WALKS: slices.Delete of one element of a list of a node's own, in place.
  MEMORY: the block of one node's properties, or references, turns.
  WALKS: what Drop and Loose do to a node.
-/
import Derived.Test.YtbkmdlfenbfdlaaGreatZC10
import Derived.Lib.AppendZerosOnto
namespace Go.Proofs.YtbkmdlfenbfdlaaGreat
open Go Go.RowKit Go.Sort
set_option linter.unusedVariables false
attribute [local go_sem ↓] Go.wp_at_zero Go.wp_at_succ
section
variable {P : Program} (w : World)
/-- copy into the middle of a block of the call's own -/
theorem run_copy_seg (dT sT ty elem : TypeId) (i : TypeInfo) (size : Nat) (hu : P.underlying dT = some (.slice elem)) (hi : P.info? elem = some i) (hs : i.size = size)
    (g o m dLen dCap sLen sCap : Nat) (a : Addr) (cur : Array Value) (t : TypeId) (cs : List Value) (hg : w.heap[g]? = some (.cells cur t (0, 0))) (hm : Nat.min sLen dLen = m) (hn : cs.length = m * size)
    (hsrc : ∀ j v, cs[j]? = some v → w.cell? (a.add j) = some v) (hfit : o + cs.length ≤ cur.size) (h1 : ∀ v ∈ cs, v.oneCell' = true) :
    (Builtin.copy_ #[dT, sT] ty #[.slice (some ⟨g, o, none⟩) dLen dCap, .slice (some a) sLen sCap]).run P w = .ok (goInt m) (w.setRow g (cur.toList.take o ++ cs ++ cur.toList.drop (o + cs.length)).toArray) := by
  have hl := run_loadCells_list (P := P) w a cs hsrc
  have hst := run_storeCells_at P g o t cs 0 cur w hg (by simpa using hfit) h1
  rw [hn] at hl
  simp only [Nat.add_zero] at hst
  have hm' : min sLen dLen = m := hm
  simp [Builtin.copy_, run_underlying hu, Builtin.lenOf, Builtin.firstCells, sizeOf, typeInfo, hi, hs, hm', hl, hst]
/-- append to a list without room: new memory -/
theorem run_app_new (t ty e : TypeId) (i : TypeInfo) (z : Value) (size bytes : Nat) (ht : P.underlying t = some (.slice e)) (hi : P.info? e = some i) (hz : i.zero = some z)
    (hsize : i.size = size) (hby : i.bytes = bytes) (hzs : z.cells.size = size)
    (base : Nat) (A : Option Addr) (n : Nat) (xs : List Value) (hown : w.ownsRow base e size (.slice A n n) n xs) (h0 : n = 0 → A = none)
    (gm : Nat) (cs : List Value) (hb : Blk w gm e cs.toArray) (hcs : cs.length = size) (h63 : n + 1 ≤ maxLen) (hbytes : (n + 1) * bytes ≤ 140737488355328) :
    ∃ c w', (Builtin.append_ #[t, t] ty #[.slice A n n, .slice (some ⟨gm, 0, none⟩) 1 1]).run P w = .ok (.slice (some ⟨w.heap.size, 0, none⟩) (n + 1) c) w' ∧
      w'.ownsRow w.heap.size e size (.slice (some ⟨w.heap.size, 0, none⟩) (n + 1) c) (n + 1) (xs ++ cs) ∧ Below w.heap.size w w' := by
  subst hsize hby
  have hsmall : n + 1 ≤ 9223372036854775807 := by simp only [maxLen] at h63; omega
  have hsrc : ∀ j u, cs[j]? = some u → w.cell? ((⟨gm, 0, none⟩ : Addr).add j) = some u := fun j u hu => by rw [Addr.add_lit, Nat.zero_add, hb.cell]; simpa using hu
  have hlen : (xs ++ cs).length = (n + 1) * i.size := by rw [List.length_append, hown.1, hcs, Nat.add_mul, Nat.one_mul]
  have grown : ∀ (old : Nat), (w.drew.alloc (.cells (xs.toArray ++ cs.toArray ++ Builtin.zeroCells z.cells (grownCap w (n + 1) old e - (n + 1))) e)).ownsRow w.heap.size e i.size
        (.slice (some ⟨w.heap.size, 0, none⟩) (n + 1) (grownCap w (n + 1) old e)) (n + 1) (xs ++ cs) := by
    intro old
    have hge := grownCap_ge w (n + 1) old e
    have hcm : grownCap w (n + 1) old e ≤ maxLen := grownCap_le_maxLen w (n + 1) old e h63
    refine ⟨hlen, .inr ⟨w.heap.size, _, _, rfl, Nat.le_refl _, heap_alloc_new w.drew _, hge, hcm, ?_, ?_⟩⟩
    · simp only [Array.size_append, List.size_toArray, size_zeroCells, hzs, hown.1, hcs]
      rw [show n * i.size + i.size = (n + 1) * i.size from by rw [Nat.add_mul, Nat.one_mul], ← Nat.add_mul]
      congr 1
      omega
    · simp only [Array.toList_append, List.append_assoc]
      rw [← List.append_assoc, ← hlen]
      exact List.take_left
  have hbel : ∀ o : Obj, Below w.heap.size w (w.drew.alloc o) := fun o => (below_drew1 w).trans ((below_box w.drew o))
  by_cases hn : n = 0
  · subst hn
    obtain rfl := h0 rfl
    have hx : xs = [] := List.eq_nil_of_length_eq_zero (by simpa using hown.1)
    subst hx
    have hr := run_append_nil (P := P) w t ty e i z ht hi hz ⟨gm, 0, none⟩ 1 1 cs (by rw [hcs, Nat.one_mul]) hsrc (by omega) (by omega) (by have hb := hbytes; simp only [Nat.zero_add] at hb; omega)
    have hgr := grown 0
    simp only [Nat.zero_add, List.nil_append, Array.empty_append] at hgr ⊢
    exact ⟨_, _, hr, hgr, hbel _⟩
  · rcases hown.2 with ⟨hv, h0'⟩ | ⟨g, cap, cur, hv, hbg, hg, hnc, hcm, hcz, htake⟩
    · exact absurd h0' hn
    · injection hv with hA _ hcap
      subst hA hcap
      have holds : ∀ j u, xs[j]? = some u → w.cell? ((⟨g, 0, none⟩ : Addr).add j) = some u := hown.cells (g := g) rfl
      have hr := run_append_grow (P := P) w t ty e i z ht hi hz ⟨g, 0, none⟩ n n xs hown.1 holds ⟨gm, 0, none⟩ 1 1 cs (by rw [hcs, Nat.one_mul]) hsrc (by omega) (by omega) (growslice_fits (by omega) hbytes)
      exact ⟨_, _, hr, grown n, hbel _⟩
/-- append as the walk takes it, by what it comes to -/
theorem wpList_app_run {ops : Array Oper} {rest : List Oper} {o : Oper} {a : Act} {Q : Exit → Act → World → Prop} (hgd : o.guard = none) (s x : Operand) (t t' : TypeId)
    (ho : o.op = .call { callee := .builtin .append, args := #[s, x], argTypes := #[t, t'] }) (vs vx : Value) (hs : a.eval s = vs) (hx : a.eval x = vx) (v' : Value) (w' : World)
    (hrun : (Builtin.append_ #[t, t'] o.type #[vs, vx]).run P w = .ok v' w') (h : wpList P ops Q rest (a.put o.dst v') w') : wpList P ops Q (o :: rest) a w :=
  wpList_plain hgd fun _ hK => by
    unfold Oper.wp execOp
    simp only [ho, resolve, invoke, builtin, Sem.run_bind, Sem.run_pure, Result.andThen_ok, List.map_toArray, List.map_cons, List.map_nil, hs, hx, hrun]
    exact hK _ _ h
/-- append of so many zero values to the first ones of a list that has no room for them: new memory -/
theorem run_zeros_new (t tn ty e : TypeId) (i : TypeInfo) (z : Value) (size bytes : Nat) (kn : IntKind) (ht : P.underlying t = some (.slice e)) (htn : P.underlying tn = some (.int kn)) (hi : P.info? e = some i) (hz : i.zero = some z)
    (hsize : i.size = size) (hby : i.bytes = bytes) (hzs : z.cells.size = size) (hsz : 0 < size)
    (base : Nat) (g n k : Nat) (xs : List Value) (hown : w.ownsRow base e size (.slice (some ⟨g, 0, none⟩) n n) n xs) (hk : k ≤ n) (h63 : n + 1 ≤ maxLen) (hbytes : (n + 1) * bytes ≤ 140737488355328) :
    ∃ c cur, (Builtin.append_ #[t, tn] ty #[.slice (some ⟨g, 0, none⟩) k n, .int .i64 ((n + 1 - k : Nat) : Int)]).run P w = .ok (.slice (some ⟨w.heap.size, 0, none⟩) (n + 1) c) (w.drew.alloc (.cells cur e)) ∧
      cur.size = c * size ∧ n + 1 ≤ c ∧ c ≤ maxLen ∧ cur.toList.take (k * size) = xs.take (k * size) := by
  subst hsize hby
  have hsmall : n + 1 ≤ 9223372036854775807 := by simp only [maxLen] at h63; omega
  have hlx : (xs.take (k * i.size)).length = k * i.size := by rw [List.length_take, hown.1]; have := Nat.mul_le_mul_right i.size hk; omega
  have hold : (Builtin.firstCells i.size k (.slice (some ⟨g, 0, none⟩) k n)).run P w.drew = .ok (xs.take (k * i.size)).toArray w.drew := by
    have hcl := hown.cells (g := g) rfl
    have hl := run_loadCells_list (P := P) w.drew ⟨g, 0, none⟩ (xs.take (k * i.size)) (fun j u hu => by
      rw [List.getElem?_take] at hu
      split at hu
      · exact hcl j u hu
      · cases hu)
    rw [hlx] at hl
    simp [Builtin.firstCells, hl]
  have hr := Lib.run_append_grow_zeros (P := P) w t tn ty e i z .i64 kn ht htn hi hz (some ⟨g, 0, none⟩) k n _ hold (n + 1 - k) (by omega) hsz (by omega) (by omega) (Nat.le_trans (Nat.mul_le_mul_right _ (by omega)) (by omega : (n + 1) * i.bytes ≤ 281474976710656)) (growslice_fits (by omega) (by rw [show k + (n + 1 - k) = n + 1 from by omega]; exact hbytes))
  rw [show k + (n + 1 - k) = n + 1 from by omega] at hr
  have hge := grownCap_ge w (n + 1) n e
  have hcm : grownCap w (n + 1) n e ≤ maxLen := grownCap_le_maxLen w (n + 1) n e h63
  refine ⟨_, _, hr, ?_, hge, hcm, ?_⟩
  · simp only [Array.size_append, List.size_toArray, size_zeroCells, hzs, hlx]
    rw [← Nat.add_mul, ← Nat.add_mul]
    congr 1
    omega
  · simp only [Array.toList_append, List.append_assoc]
    rw [← hlx]
    simp
end
/-- a cell of a list of the call's own that isn't empty -/
theorem own_cell1 {w : World} {B size n c : Nat} {e : TypeId} {A : Option Addr} (h : ∃ xs, w.ownsRow B e size (.slice A n c) n xs) (hn : 0 < n) :
    ∃ g cs, A = some ⟨g, 0, none⟩ ∧ Blk w g e cs ∧ B ≤ g ∧ n ≤ c ∧ c ≤ maxLen ∧ cs.size = c * size := by
  obtain ⟨xs, h⟩ := h
  rcases h.2 with ⟨hv, h0⟩ | ⟨g, cap, cur, hv, hb, hg, h1, h2, h3, rest⟩
  · omega
  · injection hv with hA _ hc
    subst hA hc
    exact ⟨g, cur, rfl, hg, hb, h1, h2, h3⟩
/-- one more at a place -/
def insL {α : Type} (l : List α) (k : Nat) (x : α) : List α := l.take k ++ x :: l.drop k
theorem insL_flat {α : Type} (f : α → List Value) (hf : ∀ a, (f a).length = 2) (l : List α) (k : Nat) (x : α) (hk : k ≤ l.length) : (insL l k x).flatMap f = (l.flatMap f).take (k * 2) ++ f x ++ (l.flatMap f).drop (k * 2) := by
  have e : l.flatMap f = (l.take k).flatMap f ++ (l.drop k).flatMap f := by rw [← List.flatMap_append, List.take_append_drop]
  have hl : ((l.take k).flatMap f).length = k * 2 := by rw [flatN_len hf, List.length_take, Nat.min_eq_left hk]
  rw [e, List.take_left' hl, List.drop_left' hl]
  simp [insL]
set_option maxRecDepth 20000 in
set_option maxHeartbeats 1600000 in
theorem insProp_any (w : World) (base : Nat) (A : Option Addr) (n k gv : Nat) (l : List (ByteArray × ByteArray)) (name : ByteArray) (hown : w.ownsRow base 94 2 (.slice A n n) n (propCells l)) (hln : l.length = n) (h0 : n = 0 → A = none) (hk : k ≤ n)
    (hv : Blk w gv 94 #[.string name, .string ⟨#[]⟩]) (hb : (n + 1) * 32 ≤ 140737488355328) :
    Calls Tryz.prog 65 #[.slice A n n, .int .i64 k, .slice (some ⟨gv, 0, none⟩) 1 1] w fun e w' => ∃ A' c', e = .returned (.slice A' (n + 1) c') ∧ w'.ownsRow w.heap.size 94 2 (.slice A' (n + 1) c') (n + 1) (propCells (insL l k (name, ⟨#[]⟩))) ∧ Below w.heap.size w w' := by
  obtain ⟨i0, hi0, hz0, hz1, hz2⟩ := info_parts propInfo
  have hcell : propCells (insL l k (name, ⟨#[]⟩)) = (propCells l).take (k * 2) ++ [.string name, .string ⟨#[]⟩] ++ (propCells l).drop (k * 2) := insL_flat _ (fun _ => rfl) l k _ (by omega)
  rw [hcell]
  have hxl : (propCells l).length = n * 2 := by rw [propCells_length, hln]
  clear hcell
  by_cases hkn : k = n
  · subst hkn
    have hx1 : (propCells l).take (k * 2) = propCells l := List.take_of_length_le (by omega)
    have hx2 : (propCells l).drop (k * 2) = [] := List.drop_eq_nil_of_le (by omega)
    rw [hx1, hx2, List.append_nil]
    obtain ⟨c, w', hrun, ho, hbl⟩ := run_app_new (P := Tryz.prog) w 38 38 94 i0 _ 2 32 Tryz.underlying38 hi0 hz0 hz1 hz2 rfl base A k _ hown h0 gv [.string name, .string ⟨#[]⟩] hv rfl (by unfold maxLen; omega) hb
    have HO := Lib.hid ho
    have HB := Lib.hid hbl
    have HRN := Lib.hid hrun
    clear hrun
    by_cases hk0 : k = 0
    · subst hk0
      obtain rfl := h0 rfl
      clear hown ho hbl hv h0
      go_enter Tryz.func65, Tryz.ntmps65
      go_wp2_with (at_builtin; go_must (refine wpList_app_run _ rfl (.tmp 23) (.tmp 24) _ _ rfl _ _ rfl rfl _ _ HRN.out ?_))
      go_ret
      exact ⟨_, c, rfl, HO.out, HB.out⟩
    · obtain ⟨g, cs, hA, _, _, _, _, _⟩ := own_cell1 ⟨_, hown⟩ (by omega)
      subst hA
      clear hown ho hbl hv h0
      go_enter Tryz.func65, Tryz.ntmps65
      go_wp2_with (at_builtin; go_must (refine wpList_app_run _ rfl (.tmp 23) (.tmp 24) _ _ rfl _ _ rfl rfl _ _ HRN.out ?_))
      go_ret
      exact ⟨_, c, rfl, HO.out, HB.out⟩
  · have hlt : k < n := by omega
    obtain ⟨g, cs, hA, hgb, _, _, _, _⟩ := own_cell1 ⟨_, hown⟩ (by omega)
    subst hA
    obtain ⟨c, cur, hrun, hcs, hc1, hc2, htk⟩ := run_zeros_new (P := Tryz.prog) w 38 3 38 94 i0 _ 2 32 _ Tryz.underlying38 Tryz.underlying3 hi0 hz0 hz1 hz2 rfl (by omega) base g n k _ hown hk (by unfold maxLen; omega) hb
    rw [show ((n + 1 - k : Nat) : Int) = (n : Int) + 1 - (k : Int) from by omega] at hrun
    have hB1 : Blk (w.drew.alloc (.cells cur 94)) w.heap.size 94 cur := Blk.new' rfl
    have hE1 : Below w.heap.size w (w.drew.alloc (.cells cur 94)) := (below_drew1 w).trans (below_box w.drew _)
    generalize w.drew.alloc (.cells cur 94) = W1 at hrun hB1 hE1
    have hv1 := hv.after hE1
    have hmul : (k + 1) * 2 ≤ c * 2 := Nat.mul_le_mul_right 2 (by omega)
    have hrun2 := run_copy_seg (P := Tryz.prog) W1 38 38 3 94 i0 2 Tryz.underlying38 hi0 hz1 w.heap.size (k * 2) 1 (n + 1 - k) (c - k) 1 1 ⟨gv, 0, none⟩ cur 94 [.string name, .string ⟨#[]⟩] hB1 (by show min 1 (n + 1 - k) = 1; omega) rfl
      (fun j u hu => by rw [Addr.add_lit, Nat.zero_add, hv1.cell]; simpa using hu) (by simp only [List.length_cons, List.length_nil]; omega) (by simp [Value.oneCell'])
    have hB2 : Blk (W1.setRow w.heap.size (cur.toList.take (k * 2) ++ [Value.string name, Value.string ⟨#[]⟩] ++ cur.toList.drop (k * 2 + ([Value.string name, Value.string ⟨#[]⟩] : List Value).length)).toArray) w.heap.size 94 _ := setRow_heap W1 w.heap.size cur _ 94 (0, 0) hB1
    have hE2 := below_setRow hE1 (Nat.le_refl _) (cur.toList.take (k * 2) ++ [Value.string name, Value.string ⟨#[]⟩] ++ cur.toList.drop (k * 2 + ([Value.string name, Value.string ⟨#[]⟩] : List Value).length)).toArray
    generalize W1.setRow w.heap.size (cur.toList.take (k * 2) ++ [Value.string name, Value.string ⟨#[]⟩] ++ cur.toList.drop (k * 2 + ([Value.string name, Value.string ⟨#[]⟩] : List Value).length)).toArray = W2 at hrun2 hB2 hE2
    obtain ⟨cur2, hcur2⟩ : ∃ x, (cur.toList.take (k * 2) ++ [Value.string name, Value.string ⟨#[]⟩] ++ cur.toList.drop (k * 2 + ([Value.string name, Value.string ⟨#[]⟩] : List Value).length)) = x := ⟨_, rfl⟩
    rw [hcur2] at hB2
    have hlc2 : cur2.length = c * 2 := by
      rw [← hcur2]
      simp only [List.length_append, List.length_take, List.length_drop, Array.length_toList, List.length_cons, List.length_nil]
      omega
    obtain ⟨k1, hk1⟩ : ∃ k1, k1 = k + 1 := ⟨_, rfl⟩
    have ho2 := own_after hown (hE2.trans ((below_drew1 W2).mono hE2.size))
    have hcl := ho2.cells (g := g) rfl
    have hrun3 := run_copy_seg (P := Tryz.prog) W2.drew 38 38 3 94 i0 2 Tryz.underlying38 hi0 hz1 w.heap.size (k1 * 2) (n - k) (n + 1 - k1) (c - k1) (n - k) (n - k) ⟨g, k * 2, none⟩ cur2.toArray 94 ((propCells l).drop (k * 2)) (hB2.after (below_drew1 W2)) (by show min (n - k) (n + 1 - k1) = n - k; omega) (by rw [List.length_drop, hxl, ← Nat.sub_mul])
      (fun j u hu => by
        rw [Addr.add_lit]
        rw [List.getElem?_drop] at hu
        have := hcl _ _ hu
        rwa [Addr.add_lit, Nat.zero_add] at this) (by rw [List.length_drop, hxl, List.size_toArray, hlc2]; have : (n + 1) * 2 ≤ c * 2 := Nat.mul_le_mul_right 2 hc1; omega) (fun u hu => propCells_one l u (List.mem_of_mem_drop hu))
    have hB3 := setRow_heap W2.drew w.heap.size cur2.toArray (cur2.toArray.toList.take (k1 * 2) ++ (propCells l).drop (k * 2) ++ cur2.toArray.toList.drop (k1 * 2 + ((propCells l).drop (k * 2)).length)).toArray 94 (0, 0) (hB2.after (below_drew1 W2))
    have hE3 := below_setRow (hE2.trans ((below_drew1 W2).mono hE2.size)) (Nat.le_refl _) (cur2.toArray.toList.take (k1 * 2) ++ (propCells l).drop (k * 2) ++ cur2.toArray.toList.drop (k1 * 2 + ((propCells l).drop (k * 2)).length)).toArray
    generalize W2.drew.setRow w.heap.size (cur2.toArray.toList.take (k1 * 2) ++ (propCells l).drop (k * 2) ++ cur2.toArray.toList.drop (k1 * 2 + ((propCells l).drop (k * 2)).length)).toArray = W3 at hrun3 hB3 hE3
    have hlt1 : (cur.toList.take (k * 2)).length = k * 2 := by rw [List.length_take, Array.length_toList]; omega
    have hcut : cur2.take (k1 * 2) = (propCells l).take (k * 2) ++ [.string name, .string ⟨#[]⟩] := by
      rw [← hcur2, List.take_left' (by rw [List.length_append, hlt1]; simp only [List.length_cons, List.length_nil]; omega), htk]
    have hfin : W3.ownsRow w.heap.size 94 2 (.slice (some ⟨w.heap.size, 0, none⟩) (n + 1) c) (n + 1) ((propCells l).take (k * 2) ++ [.string name, .string ⟨#[]⟩] ++ (propCells l).drop (k * 2)) := by
      have hl : ((propCells l).take (k * 2) ++ [Value.string name, Value.string ⟨#[]⟩] ++ (propCells l).drop (k * 2)).length = (n + 1) * 2 := by
        simp only [List.length_append, List.length_take, List.length_drop, hxl, List.length_cons, List.length_nil]
        omega
      refine ⟨hl, .inr ⟨w.heap.size, c, _, rfl, Nat.le_refl _, hB3, hc1, hc2, ?_, ?_⟩⟩
      · simp only [List.size_toArray, List.length_append, List.length_take, List.length_drop, hlc2, hxl]
        have : (n + 1) * 2 ≤ c * 2 := Nat.mul_le_mul_right 2 hc1
        omega
      · simp only [List.toList_toArray]
        rw [hcut, List.take_left' hl]
    have HRN := Lib.hid hrun
    have HFI := Lib.hid hfin
    have HE3 := Lib.hid hE3
    have hw1 : IntKind.i64.wrap ((k : Int) + 1) = (k1 : Int) := by rw [IntWalk.i64_in _ ⟨by omega, by unfold maxLen at hc2; omega⟩]; omega
    have hk1i : ¬ (n : Int) + 1 < (k1 : Int) := by omega
    have hnk : ¬ n = k := by omega
    have hck : ¬ c = k1 := by omega
    have hk1c : k1 ≤ c := by omega
    have hk1n : k1 ≤ n + 1 := by omega
    have hc3 : c ≤ 9223372036854775807 := by unfold maxLen at hc2; omega
    clear hrun hown hv hv1 h0 hgb htk hc2 hB1 hE1 hB2 hE2 hcur2 hlc2 ho2 hcl hB3 hE3 hlt1 hcut hfin hmul hk1
    go_enter Tryz.func65, Tryz.ntmps65
    go_upto_region 11 with (at_builtin; go_must (refine wpList_app_run _ rfl (.tmp 34) (.tmp 39) _ _ rfl _ _ rfl rfl _ _ HRN.out ?_))
    refine wp_region_held_tail 8 (fun w' => True) (by kernel_rfl) (by kernel_rfl) trivial (fun hHeld => ?qt0)
    case qt0 =>
      simp only [List.take_succ_cons, List.take_zero, List.drop_succ_cons, List.drop_zero]
      refine wpAnyH_take (i := 0) (v := (.slice (some ⟨w.heap.size, 0, none⟩) (n + 1) c)) rfl (by kernel_rfl) (by kernel_rfl) (by kernel_rfl) (fun _ _ _ h => h) (Or.inl ⟨by rfl, ?yt_1⟩) (by assumption) ?qt_1
      case yt_1 => (intro w hSw; (try dsimp only at hSw); go_simp)
      case qt_1 =>
        (try simp only [Act.put]); (try simp only [List.setIfInBounds_toArray])
        refine wpAnyH_take (i := 1) (v := (.int .i64 k)) rfl (by kernel_rfl) (by kernel_rfl) (by kernel_rfl) (fun _ _ _ h => h) (Or.inl ⟨by rfl, ?yt_2⟩) (by assumption) ?qt_2
        case yt_2 => (intro w hSw; (try dsimp only at hSw); go_simp)
        case qt_2 =>
          (try simp only [Act.put]); (try simp only [List.setIfInBounds_toArray])
          refine wpAnyH_take (i := 2) (v := (.int .i64 1)) rfl (by kernel_rfl) (by kernel_rfl) (by kernel_rfl) (fun _ _ _ h => h) (Or.inl ⟨by rfl, ?yt_3⟩) (by assumption) ?qt_3
          case yt_3 => (intro w hSw; (try dsimp only at hSw); go_simp)
          case qt_3 =>
            (try simp only [Act.put]); (try simp only [List.setIfInBounds_toArray])
            refine wpAnyH_take (i := 3) (v := (.int .i64 k1)) rfl (by kernel_rfl) (by kernel_rfl) (by kernel_rfl) (fun _ _ _ h => h) (Or.inl ⟨by rfl, ?yt_4⟩) (by assumption) ?qt_4
            case yt_4 => (intro w hSw; (try dsimp only at hSw); go_simp)
            case qt_4 =>
              (try simp only [Act.put]); (try simp only [List.setIfInBounds_toArray])
              refine wpAnyH_take (i := 4) (v := (.slice (some ⟨w.heap.size, k1 * 2, none⟩) (n + 1 - k1) (c - k1))) rfl (by kernel_rfl) (by kernel_rfl) (by kernel_rfl) (fun _ _ _ h => h) (Or.inl ⟨by rfl, ?yt_5⟩) (by assumption) ?qt_5
              case yt_5 => (intro w hSw; (try dsimp only at hSw); go_simp)
              case qt_5 =>
                (try simp only [Act.put]); (try simp only [List.setIfInBounds_toArray])
                refine wpAnyH_take (i := 5) (v := (.slice (some ⟨g, 0, none⟩) n n)) rfl (by kernel_rfl) (by kernel_rfl) (by kernel_rfl) (fun _ _ _ h => h) (Or.inl ⟨by rfl, ?yt_6⟩) (by assumption) ?qt_6
                case yt_6 => (intro w hSw; (try dsimp only at hSw); go_simp)
                case qt_6 =>
                  (try simp only [Act.put]); (try simp only [List.setIfInBounds_toArray])
                  refine wpAnyH_take (i := 6) (v := (.int .i64 k)) rfl (by kernel_rfl) (by kernel_rfl) (by kernel_rfl) (fun _ _ _ h => h) (Or.inl ⟨by rfl, ?yt_7⟩) (by assumption) ?qt_7
                  case yt_7 => (intro w hSw; (try dsimp only at hSw); go_simp)
                  case qt_7 =>
                    (try simp only [Act.put]); (try simp only [List.setIfInBounds_toArray])
                    refine wpAnyH_take (i := 7) (v := (.slice (some ⟨g, k * 2, none⟩) (n - k) (n - k))) rfl (by kernel_rfl) (by kernel_rfl) (by kernel_rfl) (fun _ _ _ h => h) (Or.inl ⟨by rfl, ?yt_8⟩) (by assumption) ?qt_8
                    case yt_8 => (intro w hSw; (try dsimp only at hSw); go_simp)
                    case qt_8 =>
                      (try simp only [Act.put]); (try simp only [List.setIfInBounds_toArray])
                      refine wpAnyH_done (by kernel_rfl) ?_ _
                      show wpList _ _ _ _ _ _
                      go_wp2_with fail
                      go_ret
                      have hfo := HFI.out
                      simp only [List.append_assoc, List.cons_append, List.nil_append] at hfo
                      exact ⟨_, c, rfl, hfo, HE3.out⟩
set_option maxRecDepth 20000 in
set_option maxHeartbeats 1600000 in
theorem insRef_any (w : World) (base : Nat) (A : Option Addr) (n k gv : Nat) (l : List (ByteArray × Int)) (name : ByteArray) (hown : w.ownsRow base 60 2 (.slice A n n) n (refCells l)) (hln : l.length = n) (h0 : n = 0 → A = none) (hk : k ≤ n)
    (hv : Blk w gv 60 #[.string name, .int .i64 0]) (hb : (n + 1) * 24 ≤ 140737488355328) :
    Calls Tryz.prog 68 #[.slice A n n, .int .i64 k, .slice (some ⟨gv, 0, none⟩) 1 1] w fun e w' => ∃ A' c', e = .returned (.slice A' (n + 1) c') ∧ w'.ownsRow w.heap.size 60 2 (.slice A' (n + 1) c') (n + 1) (refCells (insL l k (name, 0))) ∧ Below w.heap.size w w' := by
  obtain ⟨i0, hi0, hz0, hz1, hz2⟩ := info_parts refInfo
  have hcell : refCells (insL l k (name, 0)) = (refCells l).take (k * 2) ++ [.string name, .int .i64 0] ++ (refCells l).drop (k * 2) := insL_flat _ (fun _ => rfl) l k _ (by omega)
  rw [hcell]
  have hxl : (refCells l).length = n * 2 := by rw [refCells_length, hln]
  clear hcell
  by_cases hkn : k = n
  · subst hkn
    have hx1 : (refCells l).take (k * 2) = refCells l := List.take_of_length_le (by omega)
    have hx2 : (refCells l).drop (k * 2) = [] := List.drop_eq_nil_of_le (by omega)
    rw [hx1, hx2, List.append_nil]
    obtain ⟨c, w', hrun, ho, hbl⟩ := run_app_new (P := Tryz.prog) w 39 39 60 i0 _ 2 24 Tryz.underlying39 hi0 hz0 hz1 hz2 rfl base A k _ hown h0 gv [.string name, .int .i64 0] hv rfl (by unfold maxLen; omega) hb
    have HO := Lib.hid ho
    have HB := Lib.hid hbl
    have HRN := Lib.hid hrun
    clear hrun
    by_cases hk0 : k = 0
    · subst hk0
      obtain rfl := h0 rfl
      clear hown ho hbl hv h0
      go_enter Tryz.func68, Tryz.ntmps68
      go_wp2_with (at_builtin; go_must (refine wpList_app_run _ rfl (.tmp 23) (.tmp 24) _ _ rfl _ _ rfl rfl _ _ HRN.out ?_))
      go_ret
      exact ⟨_, c, rfl, HO.out, HB.out⟩
    · obtain ⟨g, cs, hA, _, _, _, _, _⟩ := own_cell1 ⟨_, hown⟩ (by omega)
      subst hA
      clear hown ho hbl hv h0
      go_enter Tryz.func68, Tryz.ntmps68
      go_wp2_with (at_builtin; go_must (refine wpList_app_run _ rfl (.tmp 23) (.tmp 24) _ _ rfl _ _ rfl rfl _ _ HRN.out ?_))
      go_ret
      exact ⟨_, c, rfl, HO.out, HB.out⟩
  · have hlt : k < n := by omega
    obtain ⟨g, cs, hA, hgb, _, _, _, _⟩ := own_cell1 ⟨_, hown⟩ (by omega)
    subst hA
    obtain ⟨c, cur, hrun, hcs, hc1, hc2, htk⟩ := run_zeros_new (P := Tryz.prog) w 39 3 39 60 i0 _ 2 24 _ Tryz.underlying39 Tryz.underlying3 hi0 hz0 hz1 hz2 rfl (by omega) base g n k _ hown hk (by unfold maxLen; omega) hb
    rw [show ((n + 1 - k : Nat) : Int) = (n : Int) + 1 - (k : Int) from by omega] at hrun
    have hB1 : Blk (w.drew.alloc (.cells cur 60)) w.heap.size 60 cur := Blk.new' rfl
    have hE1 : Below w.heap.size w (w.drew.alloc (.cells cur 60)) := (below_drew1 w).trans (below_box w.drew _)
    generalize w.drew.alloc (.cells cur 60) = W1 at hrun hB1 hE1
    have hv1 := hv.after hE1
    have hmul : (k + 1) * 2 ≤ c * 2 := Nat.mul_le_mul_right 2 (by omega)
    have hrun2 := run_copy_seg (P := Tryz.prog) W1 39 39 3 60 i0 2 Tryz.underlying39 hi0 hz1 w.heap.size (k * 2) 1 (n + 1 - k) (c - k) 1 1 ⟨gv, 0, none⟩ cur 60 [.string name, .int .i64 0] hB1 (by show min 1 (n + 1 - k) = 1; omega) rfl
      (fun j u hu => by rw [Addr.add_lit, Nat.zero_add, hv1.cell]; simpa using hu) (by simp only [List.length_cons, List.length_nil]; omega) (by simp [Value.oneCell'])
    have hB2 : Blk (W1.setRow w.heap.size (cur.toList.take (k * 2) ++ [Value.string name, Value.int .i64 0] ++ cur.toList.drop (k * 2 + ([Value.string name, Value.int .i64 0] : List Value).length)).toArray) w.heap.size 60 _ := setRow_heap W1 w.heap.size cur _ 60 (0, 0) hB1
    have hE2 := below_setRow hE1 (Nat.le_refl _) (cur.toList.take (k * 2) ++ [Value.string name, Value.int .i64 0] ++ cur.toList.drop (k * 2 + ([Value.string name, Value.int .i64 0] : List Value).length)).toArray
    generalize W1.setRow w.heap.size (cur.toList.take (k * 2) ++ [Value.string name, Value.int .i64 0] ++ cur.toList.drop (k * 2 + ([Value.string name, Value.int .i64 0] : List Value).length)).toArray = W2 at hrun2 hB2 hE2
    obtain ⟨cur2, hcur2⟩ : ∃ x, (cur.toList.take (k * 2) ++ [Value.string name, Value.int .i64 0] ++ cur.toList.drop (k * 2 + ([Value.string name, Value.int .i64 0] : List Value).length)) = x := ⟨_, rfl⟩
    rw [hcur2] at hB2
    have hlc2 : cur2.length = c * 2 := by
      rw [← hcur2]
      simp only [List.length_append, List.length_take, List.length_drop, Array.length_toList, List.length_cons, List.length_nil]
      omega
    obtain ⟨k1, hk1⟩ : ∃ k1, k1 = k + 1 := ⟨_, rfl⟩
    have ho2 := own_after hown (hE2.trans ((below_drew1 W2).mono hE2.size))
    have hcl := ho2.cells (g := g) rfl
    have hrun3 := run_copy_seg (P := Tryz.prog) W2.drew 39 39 3 60 i0 2 Tryz.underlying39 hi0 hz1 w.heap.size (k1 * 2) (n - k) (n + 1 - k1) (c - k1) (n - k) (n - k) ⟨g, k * 2, none⟩ cur2.toArray 60 ((refCells l).drop (k * 2)) (hB2.after (below_drew1 W2)) (by show min (n - k) (n + 1 - k1) = n - k; omega) (by rw [List.length_drop, hxl, ← Nat.sub_mul])
      (fun j u hu => by
        rw [Addr.add_lit]
        rw [List.getElem?_drop] at hu
        have := hcl _ _ hu
        rwa [Addr.add_lit, Nat.zero_add] at this) (by rw [List.length_drop, hxl, List.size_toArray, hlc2]; have : (n + 1) * 2 ≤ c * 2 := Nat.mul_le_mul_right 2 hc1; omega) (fun u hu => refCells_one l u (List.mem_of_mem_drop hu))
    have hB3 := setRow_heap W2.drew w.heap.size cur2.toArray (cur2.toArray.toList.take (k1 * 2) ++ (refCells l).drop (k * 2) ++ cur2.toArray.toList.drop (k1 * 2 + ((refCells l).drop (k * 2)).length)).toArray 60 (0, 0) (hB2.after (below_drew1 W2))
    have hE3 := below_setRow (hE2.trans ((below_drew1 W2).mono hE2.size)) (Nat.le_refl _) (cur2.toArray.toList.take (k1 * 2) ++ (refCells l).drop (k * 2) ++ cur2.toArray.toList.drop (k1 * 2 + ((refCells l).drop (k * 2)).length)).toArray
    generalize W2.drew.setRow w.heap.size (cur2.toArray.toList.take (k1 * 2) ++ (refCells l).drop (k * 2) ++ cur2.toArray.toList.drop (k1 * 2 + ((refCells l).drop (k * 2)).length)).toArray = W3 at hrun3 hB3 hE3
    have hlt1 : (cur.toList.take (k * 2)).length = k * 2 := by rw [List.length_take, Array.length_toList]; omega
    have hcut : cur2.take (k1 * 2) = (refCells l).take (k * 2) ++ [.string name, .int .i64 0] := by
      rw [← hcur2, List.take_left' (by rw [List.length_append, hlt1]; simp only [List.length_cons, List.length_nil]; omega), htk]
    have hfin : W3.ownsRow w.heap.size 60 2 (.slice (some ⟨w.heap.size, 0, none⟩) (n + 1) c) (n + 1) ((refCells l).take (k * 2) ++ [.string name, .int .i64 0] ++ (refCells l).drop (k * 2)) := by
      have hl : ((refCells l).take (k * 2) ++ [Value.string name, Value.int .i64 0] ++ (refCells l).drop (k * 2)).length = (n + 1) * 2 := by
        simp only [List.length_append, List.length_take, List.length_drop, hxl, List.length_cons, List.length_nil]
        omega
      refine ⟨hl, .inr ⟨w.heap.size, c, _, rfl, Nat.le_refl _, hB3, hc1, hc2, ?_, ?_⟩⟩
      · simp only [List.size_toArray, List.length_append, List.length_take, List.length_drop, hlc2, hxl]
        have : (n + 1) * 2 ≤ c * 2 := Nat.mul_le_mul_right 2 hc1
        omega
      · simp only [List.toList_toArray]
        rw [hcut, List.take_left' hl]
    have HRN := Lib.hid hrun
    have HFI := Lib.hid hfin
    have HE3 := Lib.hid hE3
    have hw1 : IntKind.i64.wrap ((k : Int) + 1) = (k1 : Int) := by rw [IntWalk.i64_in _ ⟨by omega, by unfold maxLen at hc2; omega⟩]; omega
    have hk1i : ¬ (n : Int) + 1 < (k1 : Int) := by omega
    have hnk : ¬ n = k := by omega
    have hck : ¬ c = k1 := by omega
    have hk1c : k1 ≤ c := by omega
    have hk1n : k1 ≤ n + 1 := by omega
    have hc3 : c ≤ 9223372036854775807 := by unfold maxLen at hc2; omega
    clear hrun hown hv hv1 h0 hgb htk hc2 hB1 hE1 hB2 hE2 hcur2 hlc2 ho2 hcl hB3 hE3 hlt1 hcut hfin hmul hk1
    go_enter Tryz.func68, Tryz.ntmps68
    go_upto_region 11 with (at_builtin; go_must (refine wpList_app_run _ rfl (.tmp 34) (.tmp 39) _ _ rfl _ _ rfl rfl _ _ HRN.out ?_))
    refine wp_region_held_tail 8 (fun w' => True) (by kernel_rfl) (by kernel_rfl) trivial (fun hHeld => ?qt0)
    case qt0 =>
      simp only [List.take_succ_cons, List.take_zero, List.drop_succ_cons, List.drop_zero]
      refine wpAnyH_take (i := 0) (v := (.slice (some ⟨w.heap.size, 0, none⟩) (n + 1) c)) rfl (by kernel_rfl) (by kernel_rfl) (by kernel_rfl) (fun _ _ _ h => h) (Or.inl ⟨by rfl, ?yt_1⟩) (by assumption) ?qt_1
      case yt_1 => (intro w hSw; (try dsimp only at hSw); go_simp)
      case qt_1 =>
        (try simp only [Act.put]); (try simp only [List.setIfInBounds_toArray])
        refine wpAnyH_take (i := 1) (v := (.int .i64 k)) rfl (by kernel_rfl) (by kernel_rfl) (by kernel_rfl) (fun _ _ _ h => h) (Or.inl ⟨by rfl, ?yt_2⟩) (by assumption) ?qt_2
        case yt_2 => (intro w hSw; (try dsimp only at hSw); go_simp)
        case qt_2 =>
          (try simp only [Act.put]); (try simp only [List.setIfInBounds_toArray])
          refine wpAnyH_take (i := 2) (v := (.int .i64 1)) rfl (by kernel_rfl) (by kernel_rfl) (by kernel_rfl) (fun _ _ _ h => h) (Or.inl ⟨by rfl, ?yt_3⟩) (by assumption) ?qt_3
          case yt_3 => (intro w hSw; (try dsimp only at hSw); go_simp)
          case qt_3 =>
            (try simp only [Act.put]); (try simp only [List.setIfInBounds_toArray])
            refine wpAnyH_take (i := 3) (v := (.int .i64 k1)) rfl (by kernel_rfl) (by kernel_rfl) (by kernel_rfl) (fun _ _ _ h => h) (Or.inl ⟨by rfl, ?yt_4⟩) (by assumption) ?qt_4
            case yt_4 => (intro w hSw; (try dsimp only at hSw); go_simp)
            case qt_4 =>
              (try simp only [Act.put]); (try simp only [List.setIfInBounds_toArray])
              refine wpAnyH_take (i := 4) (v := (.slice (some ⟨w.heap.size, k1 * 2, none⟩) (n + 1 - k1) (c - k1))) rfl (by kernel_rfl) (by kernel_rfl) (by kernel_rfl) (fun _ _ _ h => h) (Or.inl ⟨by rfl, ?yt_5⟩) (by assumption) ?qt_5
              case yt_5 => (intro w hSw; (try dsimp only at hSw); go_simp)
              case qt_5 =>
                (try simp only [Act.put]); (try simp only [List.setIfInBounds_toArray])
                refine wpAnyH_take (i := 5) (v := (.slice (some ⟨g, 0, none⟩) n n)) rfl (by kernel_rfl) (by kernel_rfl) (by kernel_rfl) (fun _ _ _ h => h) (Or.inl ⟨by rfl, ?yt_6⟩) (by assumption) ?qt_6
                case yt_6 => (intro w hSw; (try dsimp only at hSw); go_simp)
                case qt_6 =>
                  (try simp only [Act.put]); (try simp only [List.setIfInBounds_toArray])
                  refine wpAnyH_take (i := 6) (v := (.int .i64 k)) rfl (by kernel_rfl) (by kernel_rfl) (by kernel_rfl) (fun _ _ _ h => h) (Or.inl ⟨by rfl, ?yt_7⟩) (by assumption) ?qt_7
                  case yt_7 => (intro w hSw; (try dsimp only at hSw); go_simp)
                  case qt_7 =>
                    (try simp only [Act.put]); (try simp only [List.setIfInBounds_toArray])
                    refine wpAnyH_take (i := 7) (v := (.slice (some ⟨g, k * 2, none⟩) (n - k) (n - k))) rfl (by kernel_rfl) (by kernel_rfl) (by kernel_rfl) (fun _ _ _ h => h) (Or.inl ⟨by rfl, ?yt_8⟩) (by assumption) ?qt_8
                    case yt_8 => (intro w hSw; (try dsimp only at hSw); go_simp)
                    case qt_8 =>
                      (try simp only [Act.put]); (try simp only [List.setIfInBounds_toArray])
                      refine wpAnyH_done (by kernel_rfl) ?_ _
                      show wpList _ _ _ _ _ _
                      go_wp2_with fail
                      go_ret
                      have hfo := HFI.out
                      simp only [List.append_assoc, List.cons_append, List.nil_append] at hfo
                      exact ⟨_, c, rfl, hfo, HE3.out⟩
end Go.Proofs.YtbkmdlfenbfdlaaGreat
namespace Go.Proofs.YtbkmdlfenbfdlaaGreat
open Go Go.RowKit Go.Sort
set_option linter.unusedVariables false
attribute [local go_sem ↓] Go.wp_at_zero Go.wp_at_succ
section
variable {P : Program} (w : World)
end
theorem wpList_clear_run {P : Program} {w : World} {ops : Array Oper} {rest : List Oper} {o : Oper} {a : Act} {Q : Exit → Act → World → Prop} (hgd : o.guard = none) (s : Operand) (t : TypeId)
    (ho : o.op = .call { callee := .builtin .clear, args := #[s], argTypes := #[t] }) (vs : Value) (hs : a.eval s = vs) (v' : Value) (w' : World)
    (hrun : (Builtin.clear_ #[t] o.type #[vs]).run P w = .ok v' w') (h : wpList P ops Q rest (a.put o.dst v') w') : wpList P ops Q (o :: rest) a w := by
  refine wpList_plain hgd fun K hK => ?_
  unfold Oper.wp
  simp [execOp, ho, resolve, invoke, builtin, hs, hrun, Result.andThen]
  exact hK _ _ h
end Go.Proofs.YtbkmdlfenbfdlaaGreat
namespace Go.Proofs.YtbkmdlfenbfdlaaGreat
open Go Go.RowKit Go.Sort
set_option linter.unusedVariables false
/-- what holds besides one node -/
structure Beside (w : World) (B : Nat) (v : Value) (l : List (Nd × Leaf)) (i : Nat) : Prop where
  own : OwnN w B v l
  leaf : ∀ (j : Nat) q, j ≠ i → l[j]? = some q → OwnLeaf w B q.1 q.2
section
variable {w w' : World} {B : Nat} {v : Value} {l : List (Nd × Leaf)} {i : Nat} {p : Nd × Leaf} {gp : Nat}
theorem OwnM.touchP (h : OwnM w B v l) (hp : l[i]? = some p) (hgp : p.2.p.v.ownBlock = some gp) (hap : ∀ (j : Nat) q, j ≠ i → l[j]? = some q → NoClash p.2.p q.2.p) (hgr : w.grownBy w' (some gp)) :
    Beside w' B v l i ∧ w'.ownsRow B 3 1 (.slice p.2.k.A p.2.k.n p.2.k.c) p.2.k.n (intCells p.1.kids) ∧ w'.ownsRow B 60 2 (.slice p.2.r.A p.2.r.n p.2.r.c) p.2.r.n (refCells p.1.refs) := by
  have hlp := h.leaf p (List.mem_of_getElem? hp)
  have hgr' : w.grownBy w' (Value.slice p.2.p.A p.2.p.n p.2.p.c).ownBlock := by
    have e : (Value.slice p.2.p.A p.2.p.n p.2.p.c).ownBlock = some gp := hgp
    rw [e]; exact hgr
  refine ⟨⟨own_kept h.own hlp.p (by decide) hgr', fun j q hj hq => ?_⟩, own_kept hlp.k hlp.p (by decide) hgr', own_kept hlp.r hlp.p (by decide) hgr'⟩
  have hlq := h.leaf q (List.mem_of_getElem? hq)
  exact ⟨hlq.pn, hlq.kn, hlq.rn, World.ownsRow.kept hlq.p hgr (.inr (hap j q hj hq gp hgp)), own_kept hlq.k hlp.p (by decide) hgr', own_kept hlq.r hlp.p (by decide) hgr', hlq.sz⟩
theorem OwnM.touchR (h : OwnM w B v l) (hp : l[i]? = some p) (hgp : p.2.r.v.ownBlock = some gp) (hap : ∀ (j : Nat) q, j ≠ i → l[j]? = some q → NoClash p.2.r q.2.r) (hgr : w.grownBy w' (some gp)) :
    Beside w' B v l i ∧ w'.ownsRow B 94 2 (.slice p.2.p.A p.2.p.n p.2.p.c) p.2.p.n (propCells p.1.props) ∧ w'.ownsRow B 3 1 (.slice p.2.k.A p.2.k.n p.2.k.c) p.2.k.n (intCells p.1.kids) := by
  have hlp := h.leaf p (List.mem_of_getElem? hp)
  have hgr' : w.grownBy w' (Value.slice p.2.r.A p.2.r.n p.2.r.c).ownBlock := by
    have e : (Value.slice p.2.r.A p.2.r.n p.2.r.c).ownBlock = some gp := hgp
    rw [e]; exact hgr
  refine ⟨⟨own_kept h.own hlp.r (by decide) hgr', fun j q hj hq => ?_⟩, own_kept hlp.p hlp.r (by decide) hgr', own_kept hlp.k hlp.r (by decide) hgr'⟩
  have hlq := h.leaf q (List.mem_of_getElem? hq)
  exact ⟨hlq.pn, hlq.kn, hlq.rn, own_kept hlq.p hlp.r (by decide) hgr', own_kept hlq.k hlp.r (by decide) hgr', World.ownsRow.kept hlq.r hgr (.inr (hap j q hj hq gp hgp)), hlq.sz⟩
/-- a cell of that node is stored, and the rest of it holds -/
theorem Beside.store {n c g j : Nat} {q : Nd × Leaf} {u : Value} (h : Beside w B (.slice (some ⟨g, 0, none⟩) n c) l i) (hn : l.length = n) (hp : l[i]? = some p) (hj : j < 7) (hq : (ndCells p).set j u = ndCells q) (hl : OwnLeaf w B q.1 q.2) :
    OwnM (w.setCell ⟨g, i * 7 + j, none⟩ u) B (.slice (some ⟨g, 0, none⟩) n c) (l.set i q) := by
  subst hn
  have h1 : w.ownsRow B 41 7 (.slice (some ⟨g, 0, none⟩) l.length c) l.length (allCells l) := h.own
  obtain ⟨cs, hg, _, _⟩ := own_blk h1
  have h2 := (World.ownsRow.stored h1 (i * 7 + j) u).1
  rw [allCells_set hp hj hq] at h2
  refine ⟨?_, fun x hx => ?_⟩
  · unfold OwnN
    rw [List.length_set]
    exact h2
  · obtain ⟨k, hk⟩ := List.getElem?_of_mem hx
    rw [List.getElem?_set] at hk
    split at hk
    · split at hk
      · cases hk; exact hl.other hg (by decide) (by decide) (by decide) _ u
      · cases hk
    · exact (h.leaf k x (by omega) hk).other hg (by decide) (by decide) (by decide) _ u
/-- a node's cell -/
theorem OwnM.cellOf {n c g j : Nat} {u : Value} (h : OwnM w B (.slice (some ⟨g, 0, none⟩) n c) l) (hn : l.length = n) (hp : l[i]? = some p) (hj : j < 7) (hu : (ndCells p)[j]? = some u) : w.cell? ⟨g, i * 7 + j, none⟩ = some u ∧ w.frozen? ⟨g, i * 7 + j, none⟩ = false := by
  subst hn
  have h1 : w.ownsRow B 41 7 (.slice (some ⟨g, 0, none⟩) l.length c) l.length (allCells l) := h.own
  obtain ⟨cs, hg, _, _⟩ := own_blk h1
  have h2 := (World.ownsRow.cells (g := g) h1 rfl) (i * 7 + j) u (by rw [allCells, flatN_get ndCells_len l i p hp j hj]; exact hu)
  rw [Addr.add_lit, Nat.zero_add] at h2
  exact ⟨h2, Blk.frozen hg _⟩
end
/-- the place of a name that is there -/
theorem rank_found {ks : List ByteArray} {s : ByteArray} (hs : SortS ks) (h : foundS ks s = true) : ∃ k, ks[rankS ks s]? = some k ∧ k.toList = s.toList := by
  unfold foundS at h
  obtain ⟨k, hk, he⟩ := List.any_eq_true.1 h
  have he' : k.toList = s.toList := by simpa using he
  obtain ⟨i, hi⟩ := List.getElem?_of_mem hk
  have hl : i < ks.length := (List.getElem?_eq_some_iff.1 hi).1
  have H : HalfS ks s i i := ⟨Nat.le_refl _, by omega, fun j x hj hx => by
    have h1 := hs j i x k hj hx hi
    unfold ltS at h1 ⊢
    rwa [he'] at h1, fun j x hj hx => by
    rcases Nat.eq_or_lt_of_le hj with rfl | h2
    · rw [hi] at hx; cases hx
      unfold ltS
      rw [he']
      exact less_irrefl _
    · have h1 := hs i j k x h2 hi hx
      unfold ltS at h1 ⊢
      rw [he'] at h1
      cases h3 : Op.bytesLess x.toList s.toList with
      | false => rfl
      | true =>
        have := less_trans h1 h3
        rw [less_irrefl] at this; cases this⟩
  exact ⟨k, by rw [H.rank]; exact hi, he'⟩
end Go.Proofs.YtbkmdlfenbfdlaaGreat
namespace Go.Proofs.YtbkmdlfenbfdlaaGreat
open Go Go.RowKit Go.Sort
set_option linter.unusedVariables false
attribute [local go_sem ↓] Go.wp_at_zero Go.wp_at_succ
theorem set_same {α : Type} {l : List α} {i : Nat} {a : α} (h : l[i]? = some a) : l.set i a = l := by
  apply List.ext_getElem?
  intro j
  rw [List.getElem?_set]
  split
  · next e => subst e; rw [if_pos (List.getElem?_eq_some_iff.1 h).1, h]
  · rfl
theorem own_tight {w : World} {B size n : Nat} {e : TypeId} {A : Option Addr} {xs : List Value} (h : w.ownsRow B e size (.slice A n n) n xs) (hn : 0 < n) : ∃ g, A = some ⟨g, 0, none⟩ ∧ Blk w g e xs.toArray ∧ B ≤ g ∧ n ≤ maxLen := by
  have hl := h.1
  rcases h.2 with ⟨hv, h0⟩ | ⟨g, cap, cur, hv, hb, hg, h1, h2, h3, h4⟩
  · omega
  · injection hv with hA _ hc
    subst hA hc
    have hx : cur = xs.toArray := by
      rw [List.take_of_length_le (by rw [Array.length_toList]; omega)] at h4
      rw [← h4]
    subst hx
    exact ⟨g, rfl, hg, hb, h2⟩
end Go.Proofs.YtbkmdlfenbfdlaaGreat

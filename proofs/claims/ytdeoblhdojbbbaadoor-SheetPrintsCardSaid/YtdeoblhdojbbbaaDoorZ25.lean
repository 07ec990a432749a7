/-
  WALKS over the document's answers for layer 2: Find of a node that is there; its lists are the model's.
  BYTES THAT A CONVERSION MADE, and append of a string's bytes to them (a conversion's block bears a mark behind its last cell).
-/
import Derived.Test.YtdeoblhdojbbbaaDoorZ24
import Derived.Laws.CopyRow
namespace Go.Proofs.YtdeoblhdojbbbaaDoor
open Go Go.RowKit Go.Sort
set_option linter.unusedVariables false
def FindH (w : World) (hi : Nat) (nd : Nd) (e : Ending) (w' : World) : Prop := ∃ M : Leaf, e = .returned (.tuple #[.agg #[.int .i64 nd.id, .string nd.con, .int .i64 nd.par, .string nd.role, .slice M.p.A M.p.n M.p.c, .slice M.k.A M.k.n M.k.c, .slice M.r.A M.r.n M.r.c], .bool true]) ∧ LeafIn w' 0 hi nd M ∧ Below w.heap.size w w'
set_option maxRecDepth 100000 in
set_option maxHeartbeats 1600000 in
theorem refFindH_any (w : World) (hi : Nat) (next id : Int) (A : Option Addr) (n c : Nat) (nds : List Nd) (h : NodesIn w 0 hi A n c nds) (hh : hi ≤ w.heap.size) (hrt : rightB next nds = true) (i : Nat) (hix : ixOf nds id = some i) (nd : Nd) (hgi : nds[i]? = some nd) :
    Calls Tryd.prog 20 #[.agg #[.int .i64 next, .slice A n c], .int .i64 id] w (FindH w hi nd) := by
  have hc := h.2.2.1
  have hnc := h.2.1
  unfold maxLen at hc
  have HM0 := Lib.hid (FB.start w next A n c)
  have HRi := Lib.hid (refRight_any _ hi next A n c nds (h.below (HM0.out.bel.mono hh)) (Nat.le_trans hh HM0.out.bel.size))
  have hR := rightM hrt
  have hn4 : n ≤ 4096 := by rw [← h.1]; exact hR.len
  have HV := Lib.hid hrt
  have HAt : Hid (∀ X, Below w.heap.size w X → Calls Tryd.prog 39 #[.agg #[.int .i64 next, .slice A n c], .int .i64 id] X (Ret X (.int .i64 (atV nds id)))) := Lib.hid fun X hX => refAt_any X hi next id A n c nds (h.below (hX.mono hh)) (Nat.le_trans hh hX.size) hR.rise hn4
  have HAV := Lib.hid (atV_some hix)
  have d0 : decide ((i : Int) < 0) = false := by rw [decide_eq_false_iff_not]; omega
  have hin := ixOf_lt hix
  rw [h.1] at hin
  obtain ⟨b, o, hA, _, hb, V, hV⟩ := h.all (by omega)
  have hat := (hV i nd hgi).1
  have hlf := (hV i nd hgi).2
  generalize V i = L at hat hlf
  subst hA
  have HLF : Hid (∀ X, Below w.heap.size w X → LeafIn X 0 hi nd L) := Lib.hid fun X hX => hlf.below (hX.mono hh)
  have HATn : Hid (∀ X, Below w.heap.size w X → NodeAt X b (o + i * 7) nd L) := Lib.hid fun X hX => hat.below (hX.mono hh) hb
  obtain ⟨⟨Ap, np, cp⟩, ⟨Ak, nk, ck⟩, ⟨Ar, nr, cr⟩⟩ := L
  have HSof : Hid (∀ X, FB w next (some ⟨b, o, none⟩) n c X → X.cell? ⟨w.heap.size, 0, none⟩ = some (.int .i64 next) ∧ X.cell? ⟨w.heap.size, 1, none⟩ = some (.slice (some ⟨b, o, none⟩) n c) ∧ X.cell? ⟨b, o + i * 7, none⟩ = some (.int .i64 nd.id) ∧ X.cell? ⟨b, o + i * 7 + 1, none⟩ = some (.string nd.con) ∧ X.cell? ⟨b, o + i * 7 + 2, none⟩ = some (.int .i64 nd.par) ∧ X.cell? ⟨b, o + i * 7 + 3, none⟩ = some (.string nd.role) ∧ X.cell? ⟨b, o + i * 7 + 4, none⟩ = some (.slice Ap np cp) ∧ X.cell? ⟨b, o + i * 7 + 5, none⟩ = some (.slice Ak nk ck) ∧ X.cell? ⟨b, o + i * 7 + 6, none⟩ = some (.slice Ar nr cr)) := Lib.hid fun X hX => by
    have hq := HATn.out X hX.bel
    exact ⟨(hX.m.cell 0).trans rfl, (hX.m.cell 1).trans rfl, hq.c0, hq.c1, hq.c2, hq.c3, hq.c4, hq.c5, hq.c6⟩
  clear hrt h hix hgi hat hlf hV HATn
  go_enter Tryd.func20, Tryd.ntmps20
  go_upto_region 3 with (first | (go_at_call 17; go_must (refine HRi.out.mono ?_; rintro e w2 ⟨rfl, hb2⟩; rw [HV.out]; have HM2 := Lib.hid (HM0.out.after hb2); have a0 := (HM2.out.m.cell 0).trans (show _ = some (.int .i64 next) from rfl); have a1 := (HM2.out.m.cell 1).trans (show _ = some (.slice (some ⟨b, o, none⟩) n c) from rfl); clear hb2)) | (go_at_call 39; go_must (refine (HAt.out _ HM2.out.bel).mono ?_; rintro e w3 ⟨rfl, hb3⟩; rw [HAV.out]; clear a0 a1; have HM3 := Lib.hid (HM2.out.after hb3); have b0 := (HM3.out.m.cell 0).trans (show _ = some (.int .i64 next) from rfl); have b1 := (HM3.out.m.cell 1).trans (show _ = some (.slice (some ⟨b, o, none⟩) n c) from rfl); clear hb3)))
  clear b0 b1
  have HM4 := Lib.hid (HM3.out.after (below_drew1 _))
  refine wp_region_held_tail 7 (fun w' => w'.cell? ⟨w.heap.size, 0, none⟩ = some (.int .i64 next) ∧ w'.cell? ⟨w.heap.size, 1, none⟩ = some (.slice (some ⟨b, o, none⟩) n c) ∧ w'.cell? ⟨b, o + i * 7, none⟩ = some (.int .i64 nd.id) ∧ w'.cell? ⟨b, o + i * 7 + 1, none⟩ = some (.string nd.con) ∧ w'.cell? ⟨b, o + i * 7 + 2, none⟩ = some (.int .i64 nd.par) ∧ w'.cell? ⟨b, o + i * 7 + 3, none⟩ = some (.string nd.role) ∧ w'.cell? ⟨b, o + i * 7 + 4, none⟩ = some (.slice Ap np cp) ∧ w'.cell? ⟨b, o + i * 7 + 5, none⟩ = some (.slice Ak nk ck) ∧ w'.cell? ⟨b, o + i * 7 + 6, none⟩ = some (.slice Ar nr cr)) (by kernel_rfl) (by kernel_rfl) ?hSt (fun hHeld => ?qt0)
  case hSt => exact HSof.out _ HM4.out
  case qt0 =>
    simp only [List.take_succ_cons, List.take_zero, List.drop_succ_cons, List.drop_zero]
    refine wpAnyH_take (i := 0) (v := (.pointer (some ⟨w.heap.size, 1, none⟩))) rfl (by kernel_rfl) (by kernel_rfl) (by kernel_rfl) (fun _ _ _ h => h) (Or.inl ⟨by rfl, ?yt_1⟩) (by assumption) ?qt_1
    case yt_1 => (intro w hSw; (try dsimp only at hSw); go_simp)
    case qt_1 =>
      (try simp only [Act.put]); (try simp only [List.setIfInBounds_toArray])
      refine wpAnyH_take (i := 1) (v := (.slice (some ⟨b, o, none⟩) n c)) rfl (by kernel_rfl) (by kernel_rfl) (by kernel_rfl) (fun _ _ _ h => h) (Or.inl ⟨by rfl, ?yt_2⟩) (by assumption) ?qt_2
      case yt_2 => (intro w hSw; (try dsimp only at hSw); go_simp)
      case qt_2 =>
        (try simp only [Act.put]); (try simp only [List.setIfInBounds_toArray])
        refine wpAnyH_take (i := 2) (v := (.agg #[.int .i64 next, .slice (some ⟨b, o, none⟩) n c])) rfl (by kernel_rfl) (by kernel_rfl) (by kernel_rfl) (fun _ _ _ h => h) (Or.inl ⟨by rfl, ?yt_3⟩) (by assumption) ?qt_3
        case yt_3 => (intro w hSw; (try dsimp only at hSw); go_simp)
        case qt_3 =>
          (try simp only [Act.put]); (try simp only [List.setIfInBounds_toArray])
          refine wpAnyH_take (i := 3) (v := (.int .i64 id)) rfl (by kernel_rfl) (by kernel_rfl) (by kernel_rfl) (fun _ _ _ h => h) (Or.inl ⟨by rfl, ?yt_4⟩) (by assumption) ?qt_4
          case yt_4 => (intro w hSw; (try dsimp only at hSw); go_simp)
          case qt_4 =>
            (try simp only [Act.put]); (try simp only [List.setIfInBounds_toArray])
            refine wpAnyH_ready (rs := [4]) (by kernel_rfl) (by simp) ?_
            refine AllReadyH.cons rfl (fun K hK => ?st_5) ?mt_5
            case st_5 =>
              (refine step_call _ (by rfl) 39 #[.agg #[.int .i64 next, .slice (some ⟨b, o, none⟩) n c], .int .i64 id] (by go_simp) (HAt.out _ HM4.out.bel) ?_; rintro e Y ⟨rfl, hbd⟩; rw [HAV.out]; refine ⟨_, rfl, ?_⟩; have HMY := Lib.hid (HM4.out.after hbd); clear hbd)
              refine hK.out _ _ ?kt_5 (fun hHeld => ?qt_5)
              case kt_5 => ((try dsimp only); first | exact HSof.out _ HMY.out | exact HSof.out _ HM4.out)
              case qt_5 =>
                clear hK K
                (try simp only [Act.put]); (try simp only [List.setIfInBounds_toArray])
                refine wpAnyH_take (i := 5) (v := (.pointer (some ⟨b, o + i * 7, none⟩))) rfl (by kernel_rfl) (by kernel_rfl) (by kernel_rfl) (fun _ _ _ h => h) (Or.inl ⟨by rfl, ?yt_6⟩) (by assumption) ?qt_6
                case yt_6 => (intro w hSw; (try dsimp only at hSw); go_simp)
                case qt_6 =>
                  (try simp only [Act.put]); (try simp only [List.setIfInBounds_toArray])
                  refine wpAnyH_take (i := 6) (v := (.agg #[.int .i64 nd.id, .string nd.con, .int .i64 nd.par, .string nd.role, .slice Ap np cp, .slice Ak nk ck, .slice Ar nr cr])) rfl (by kernel_rfl) (by kernel_rfl) (by kernel_rfl) (fun _ _ _ h => h) (Or.inl ⟨by rfl, ?yt_7⟩) (by assumption) ?qt_7
                  case yt_7 => (intro w hSw; (try dsimp only at hSw); go_simp)
                  case qt_7 =>
                    (try simp only [Act.put]); (try simp only [List.setIfInBounds_toArray])
                    refine wpAnyH_done (by kernel_rfl) ?_ _
                    clear hHeld
                    obtain ⟨⟨u0, z0⟩, y0⟩ := HMY.out.room 0 (by omega)
                    obtain ⟨⟨u1, z1⟩, y1⟩ := HMY.out.room 1 (by omega)
                    obtain ⟨⟨u2, z2⟩, y2⟩ := HMY.out.room 2 (by omega)
                    obtain ⟨⟨u3, z3⟩, y3⟩ := HMY.out.room 3 (by omega)
                    obtain ⟨⟨u4, z4⟩, y4⟩ := HMY.out.room 4 (by omega)
                    obtain ⟨⟨u5, z5⟩, y5⟩ := HMY.out.room 5 (by omega)
                    obtain ⟨⟨u6, z6⟩, y6⟩ := HMY.out.room 6 (by omega)
                    show wpList _ _ _ _ _ _
                    go_wp2_with fail
                    (try rw [Exit.noGoto_ret])
                    (try simp only [Exit.inBlock, Exit.then])
                    have hres : Tryd.f20.results = #[.cell 4 37, .tmp 5] := by kernel_rfl
                    refine bodyPost_ret (v := .tuple #[.agg #[.int .i64 nd.id, .string nd.con, .int .i64 nd.par, .string nd.role, .slice Ap np cp, .slice Ak nk ck, .slice Ar nr cr], .bool true]) ?hr3 rfl ?_
                    case hr3 =>
                      simp only [results, hres]
                      go_simp
                    have hE := HMY.out.lay' (.int .i64 nd.id) (.string nd.con) (.int .i64 nd.par) (.string nd.role) (.slice Ap np cp) (.slice Ak nk ck) (.slice Ar nr cr)
                    exact ⟨⟨⟨Ap, np, cp⟩, ⟨Ak, nk, ck⟩, ⟨Ar, nr, cr⟩⟩, rfl, HLF.out _ hE, hE⟩
            case mt_5 =>
              exact AllReadyH.nil
end Go.Proofs.YtdeoblhdojbbbaaDoor
namespace Go.Proofs.YtdeoblhdojbbbaaDoor
open Go Go.RowKit
set_option linter.unusedVariables false
/-- the slice v of bytes holds l, in a block of the call's own (from B on), none of its cells frozen -/
def ownF (w : World) (B : Nat) (v : Value) (l : List UInt8) : Prop :=
  ∃ (g cap : Nat) (cur : Array Value) (fr : Nat × Nat), v = .slice (some ⟨g, 0, none⟩) l.length cap ∧ B ≤ g ∧ w.heap[g]? = some (.cells cur 5 fr) ∧ (fr.2 = 0 ∨ cap ≤ fr.1) ∧ l.length ≤ cap ∧ cap ≤ maxLen ∧ cur.size = cap ∧ cur.toList.take l.length = l.map enc
theorem ownF.below {w w' : World} {B : Nat} {v : Value} {l : List UInt8} (h : ownF w B v l) (hb : Below w.heap.size w w') : ownF w' B v l := by
  obtain ⟨g, cap, cur, fr, h1, h2, h3, rest⟩ := h
  exact ⟨g, cap, cur, fr, h1, h2, (hb.block g (Array.getElem?_eq_some_iff.1 h3).1).trans h3, rest⟩
theorem ownF.lt {w : World} {B : Nat} {v : Value} {l : List UInt8} (h : ownF w B v l) : ∀ k, v.ownBlock = some k → B ≤ k ∧ k < w.heap.size := by
  obtain ⟨g, cap, cur, fr, rfl, h2, h3, rest⟩ := h
  intro k hk
  obtain rfl : g = k := Option.some.inj hk
  exact ⟨h2, (Array.getElem?_eq_some_iff.1 h3).1⟩
theorem ownF.form {w : World} {B : Nat} {v : Value} {l : List UInt8} (h : ownF w B v l) : ∃ A m c, v = .slice A m c ∧ m = l.length ∧ m ≤ 9223372036854775807 := by
  obtain ⟨g, cap, cur, fr, rfl, h2, h3, h4, h5, h6, _⟩ := h
  unfold maxLen at h6
  exact ⟨_, _, _, rfl, rfl, by omega⟩
theorem strCells_enc (s : ByteArray) : Lib.strCells s = s.data.toList.map enc := rfl
theorem storeCells_F (g : Nat) (t : TypeId) (fr : Nat × Nat) : ∀ (vs : List Value) (o i : Nat) (cur : Array Value) (w : World), w.heap[g]? = some (.cells cur t fr) → (fr.2 = 0 ∨ cur.size ≤ fr.1) → o + i + vs.length ≤ cur.size → (∀ v ∈ vs, v.oneCell' = true) →
    (storeCells ⟨g, o, none⟩ vs i).run Tryd.prog w = .ok () (w.setRow g (cur.toList.take (o + i) ++ vs ++ cur.toList.drop (o + i + vs.length)).toArray)
  | [], o, i, cur, w, hg, _, _, _ => by
    simp only [storeCells, List.append_nil, List.length_nil, Nat.add_zero, List.take_append_drop, Array.toArray_toList]
    rw [setRow_self w g cur t fr hg]
    rfl
  | v :: rest, o, i, cur, w, hg, hfr, hl, h1 => by
    have hi : o + i < cur.size := by simp at hl; omega
    have hadd : (⟨g, o, none⟩ : Addr).add i = ⟨g, o + i, none⟩ := by unfold Addr.add; split <;> simp_all
    have hcell : w.cell? ⟨g, o + i, none⟩ = some cur[o + i] := by simp [World.cell?, hg, hi]
    have hfro : w.frozen? ⟨g, o + i, none⟩ = false := by
      obtain ⟨lo, hi2⟩ := fr
      simp only [World.frozen?, hg]
      simp only at hfr
      rw [Bool.and_eq_false_iff]
      simp only [decide_eq_false_iff_not]
      rcases hfr with h | h
      · right; omega
      · left; omega
    have hst : (store ((⟨g, o, none⟩ : Addr).add i) v).run Tryd.prog w = .ok () (w.setRow g (cur.setIfInBounds (o + i) v)) := by
      rw [hadd, run_store Tryd.prog w _ v _ (h1 v (by simp)), hcell]
      simp [hfro, setCell_eq_setRow w g (o + i) cur t fr v hg]
    have ih := storeCells_F g t fr rest o (i + 1) (cur.setIfInBounds (o + i) v) (w.setRow g (cur.setIfInBounds (o + i) v)) (setRow_heap w g cur _ t _ hg) (by simpa using hfr) (by simp at hl ⊢; omega) (fun x hx => h1 x (by simp [hx]))
    simp only [storeCells, Sem.run_bind, hst, Result.andThen_ok, ih, setRow_setRow]
    congr 3
    have e := list_seg_step cur.toList (o + i) v rest (by simp at hl ⊢; omega)
    simpa [Array.toList_setIfInBounds, Nat.add_assoc] using e
theorem run_append_F (w : World) (B : Nat) (ty : TypeId) (v : Value) (l : List UInt8) (hown : ownF w B v l) (s : ByteArray) (hroom : l.length + s.size ≤ 140737488355328) (hB : B ≤ w.heap.size) :
    ∃ v' w', (Builtin.append_ #[40, 9] ty #[v, .string s]).run Tryd.prog w = .ok v' w' ∧ ownF w' B v' (l ++ s.data.toList) ∧ w.grownBy w' v.ownBlock := by
  obtain ⟨i0, hi, hz0, hz1, hz2⟩ := info_parts byteInfo
  obtain ⟨g, cap, cur, fr, rfl, hbg, hg, hfr, hnc, hcm, hcs, htake⟩ := hown
  have hsl : s.data.toList.length = s.size := by rw [Array.length_toList]; rfl
  by_cases hrm : l.length + s.size ≤ cap
  · have hf := Lib.run_firstCells_string (P := Tryd.prog) w 1 s
    have hst := storeCells_F g 5 fr (Lib.strCells s) l.length 0 cur w hg (by rw [hcs]; exact hfr) (by rw [Lib.strCells_length]; omega) (Lib.strCells_oneCell s)
    simp only [Nat.add_zero, Lib.strCells_length] at hst
    refine ⟨.slice (some ⟨g, 0, none⟩) (l.length + s.size) cap, w.setRow g (cur.toList.take l.length ++ Lib.strCells s ++ cur.toList.drop (l.length + s.size)).toArray, ?_, ⟨g, cap, _, fr, by rw [List.length_append, hsl], hbg, setRow_heap w g cur _ _ _ hg, hfr, by rw [List.length_append, hsl]; exact hrm, hcm, ?_, ?_⟩, ⟨rfl, rfl, rfl, by simp, fun k hk hne => setRow_other w g k _ (fun e => hne (by simp [Value.ownBlock, e]))⟩⟩
    · simp [Builtin.append_, run_underlying Tryd.underlying40, run_underlying Tryd.underlying9, sizeOf, typeInfo, hi, hz1, Builtin.lenOf, hrm, hf, Addr.add_lit, hst]
    · simp only [List.size_toArray, List.length_append, List.length_take, List.length_drop, Array.length_toList, Lib.strCells_length]
      omega
    · rw [htake, strCells_enc, ← List.map_append]
      have e : (l ++ s.data.toList).length = ((l ++ s.data.toList).map enc).length := by rw [List.length_map]
      rw [e]
      exact List.take_left
  · have holds : ∀ j u, (l.map enc)[j]? = some u → w.cell? ((⟨g, 0, none⟩ : Addr).add j) = some u := by
      intro j u hj
      have hjl : j < l.length := by have := (List.getElem?_eq_some_iff.1 hj).1; simpa using this
      have e : (⟨g, 0, none⟩ : Addr).add j = ⟨g, j, none⟩ := by simp [Addr.add]; exact fun h => h.symm
      rw [e, cell_of_row w g j cur _ fr hg, ← Array.getElem?_toList]
      rw [← htake, List.getElem?_take, if_pos hjl] at hj
      exact hj
    have hr := Lib.run_append_grow_string (P := Tryd.prog) w 40 9 ty 5 i0 (.int .u8 0) Tryd.underlying40 Tryd.underlying9 hi hz0 ⟨g, 0, none⟩ l.length cap (l.map enc) (by rw [hz1]; simp) holds s (by omega) (by omega) (by rw [hz2]; exact growslice_fits (by omega) (by omega))
    have hge := grownCap_ge w (l.length + s.size) cap 5
    have hcm2 : grownCap w (l.length + s.size) cap 5 ≤ maxLen := grownCap_le_maxLen w (l.length + s.size) cap 5 (by unfold maxLen; omega)
    have hz3 : (Value.int IntKind.u8 0).cells.size = 1 := rfl
    refine ⟨_, _, hr, ⟨w.heap.size, _, _, (0, 0), by rw [List.length_append, hsl], hB, heap_alloc_new w.drew _, .inl rfl, by rw [List.length_append, hsl]; exact hge, hcm2, ?_, ?_⟩, ⟨rfl, rfl, rfl, by simp, fun k hk _ => heap_alloc_old w.drew _ hk⟩⟩
    · simp only [Array.size_append, List.size_toArray, List.length_map, size_zeroCells, hz3, Lib.strCells_length]
      omega
    · simp only [Array.toList_append, List.append_assoc]
      rw [strCells_enc, ← List.append_assoc, ← List.map_append]
      have e : (l ++ s.data.toList).length = ((l ++ s.data.toList).map enc).length := by rw [List.length_map]
      rw [e]
      exact List.take_left
theorem app_strF {w : World} {ops : Array Oper} {rest : List Oper} {o : Oper} {a : Act} {Q : Exit → Act → World → Prop} (hgd : o.guard = none) (sl x : Operand)
    (ho : o.op = .call { callee := .builtin .append, args := #[sl, x], argTypes := #[40, 9] })
    (B : Nat) (v : Value) (l : List UInt8) (hs : a.eval sl = v) (hown : ownF w B v l) (s : ByteArray) (hx : a.eval x = .string s) (hroom : l.length + s.size ≤ 140737488355328) (hB : B ≤ w.heap.size)
    (h : ∀ v' w', ownF w' B v' (l ++ s.data.toList) → w.grownBy w' v.ownBlock → wpList Tryd.prog ops Q rest (a.put o.dst v') w') : wpList Tryd.prog ops Q (o :: rest) a w := by
  refine wpList_plain hgd fun K hK => ?_
  obtain ⟨v', w', hr, h2, h3⟩ := run_append_F w B o.type v l hown s hroom hB
  unfold Oper.wp execOp
  simp only [ho, resolve, invoke, builtin, Sem.run_bind, Sem.run_pure, Result.andThen_ok, List.map_toArray, List.map_cons, List.map_nil, hs, hx, hr]
  exact hK _ _ (h v' w' h2 h3)
/-- []byte(s) -/
theorem conv_bytes (w : World) (s : ByteArray) (hs : s.size ≤ 140737488355328) : ∃ v w', (convert 9 40 (.string s)).run Tryd.prog w = .ok v w' ∧ ownF w' w.heap.size v s.data.toList ∧ Below w.heap.size w w' := by
  have h0 := Lib.run_convert_string_bytes (P := Tryd.prog) w 9 40 5 s Tryd.underlying9 Tryd.underlying40 Tryd.underlying5
  have hge := grownCap_ge w s.size 0 5
  have hcm : grownCap w s.size 0 5 ≤ maxLen := grownCap_le_maxLen w s.size 0 5 (by unfold maxLen; omega)
  have hsl : s.data.toList.length = s.size := by rw [Array.length_toList]; rfl
  have hcs : (Lib.bytesCells w 5 s).size = grownCap w s.size 0 5 := by
    unfold Lib.bytesCells
    rw [Array.size_append, Array.size_map, Array.size_replicate]
    have : s.data.size = s.size := rfl
    omega
  refine ⟨_, _, h0, ⟨w.heap.size, _, _, _, by rw [hsl], Nat.le_refl _, Lib.bytesWorld_at_new w _ s, .inr (by rw [hcs]; exact Nat.le_refl _), by rw [hsl]; exact hge, hcm, hcs, ?_⟩, Joins.below_bytesWorld _ _ _ _ (Nat.le_refl _)⟩
  unfold Lib.bytesCells
  rw [Array.toList_append, Array.toList_map]
  have e : s.data.toList.length = (s.data.toList.map fun b => Value.int .u8 b.toNat).length := by rw [List.length_map]
  rw [e]
  exact List.take_left
/-- string(b) of such a slice -/
theorem conv_F {w : World} {B : Nat} {v : Value} {l : List UInt8} (h : ownF w B v l) : (convert 40 9 v).run Tryd.prog w = .ok (.string ⟨l.toArray⟩) w := by
  obtain ⟨g, cap, cur, fr, rfl, hbg, hg, hfr, hnc, hcm, hcs, htake⟩ := h
  rw [run_convert_bytes_string w _ _ _ _ _ _ Tryd.underlying40 Tryd.underlying5 Tryd.underlying9]
  have hc : ∀ j u, (l.map enc)[j]? = some u → w.cell? ((⟨g, 0, none⟩ : Addr).add j) = some u := by
    intro j u hj
    have hjl : j < l.length := by have := (List.getElem?_eq_some_iff.1 hj).1; simpa using this
    have e : (⟨g, 0, none⟩ : Addr).add j = ⟨g, j, none⟩ := by simp [Addr.add]; exact fun h => h.symm
    rw [e, cell_of_row w g j cur _ fr hg, ← Array.getElem?_toList]
    rw [← htake, List.getElem?_take, if_pos hjl] at hj
    exact hj
  have hload := run_loadCells_list (P := Tryd.prog) w ⟨g, 0, none⟩ (l.map enc) hc
  rw [List.length_map] at hload
  have := run_bytesToString (P := Tryd.prog) w ⟨g, 0, none⟩ l.length cap (l.map fun c => (c.toNat : Int)) (by rw [hload]; congr 2; simp [enc])
  rw [this, fold_push]
  simp
end Go.Proofs.YtdeoblhdojbbbaaDoor

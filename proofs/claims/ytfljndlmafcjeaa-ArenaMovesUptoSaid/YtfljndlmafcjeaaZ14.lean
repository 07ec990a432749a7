/-
  WALKS: a node is taken from among its parent's kids.
  WALKS: the document's: a node that stands nowhere is put below a parent.
  PLAIN MATHEMATICS: a list of nodes with one more behind it; the place ahead of which a place is.
  WALKS: what is asked of a node that is added; may it stand there?
-/
import Derived.Test.YtfljndlmafcjeaaZ13
namespace Go.Proofs.Ytfljndlmafcjeaa
open Go Go.RowKit Go.Sort
set_option linter.unusedVariables false
attribute [local go_sem ↓] Go.wp_at_zero Go.wp_at_succ
/-- make of no elements with room for m -/
theorem make_room {P : Program} (t e : TypeId) (i : TypeInfo) (z : Value) (bytes : Nat) (ht : P.underlying t = some (.slice e)) (hi : P.info? e = some i) (hz : i.zero = some z) (hs : i.size = 1) (hb : i.bytes = bytes) (hzs : z.cells.size = 1)
    (m : Nat) (hn : m * bytes ≤ 140737488355328) (hm : m ≤ 9223372036854775807) : ∃ cur : Array Value, cur.size = m ∧ ∀ w : World, (Instr.makeSlice t (.int .i64 0) (.int .i64 (m : Int))).run P w = .ok (.slice (some ⟨w.heap.size, 0, none⟩) 0 m) (w.alloc (.cells cur e)) := by
  refine ⟨madeCells z.cells (m * i.size), ?_, fun w => ?_⟩
  · rw [hs]; simp [madeCells]
  · have h1 : (i.bytes : Int) * (m : Int) ≤ 281474976710656 := by
      have h2 : ((m * bytes : Nat) : Int) ≤ 281474976710656 := by omega
      rw [Int.natCast_mul] at h2
      rw [hb, Int.mul_comm]
      exact h2
    have hr := run_make (P := P) w t e i z ht hi hz .i64 .i64 0 m (by omega) (by omega) h1 (by omega)
    simp only [Int.toNat_natCast, Int.toNat_zero] at hr
    exact hr
theorem own_room {X : World} {B g m : Nat} {e : TypeId} {cur : Array Value} (hg : Blk X g e cur) (hB : B ≤ g) (hs : cur.size = m) (hm : m ≤ maxLen) : X.ownsRow B e 1 (.slice (some ⟨g, 0, none⟩) 0 m) 0 [] :=
  ⟨by simp, .inr ⟨g, m, cur, rfl, hB, hg, Nat.zero_le _, hm, by simpa using hs, by simp⟩⟩
set_option maxRecDepth 20000 in
set_option maxHeartbeats 3200000 in
theorem takeRoot_any (w : World) (B : Nat) (next id : Int) (g n c : Nat) (l : List (Nd × Leaf)) (h : OwnM w B (.slice (some ⟨g, 0, none⟩) n c) l) (hn : l.length = n) (hn4 : n ≤ 4096) (hr : Rise (l.map (·.1))) (ii : Nat) (p : Nd × Leaf) (hp : l[ii]? = some p) (hid : p.1.id = id) (h0 : p.1.par = 0) :
    Calls Try.prog 20 #[.agg #[.int .i64 next, .slice (some ⟨g, 0, none⟩) n c], .int .i64 id] w (PutPost w B g n c (l.map (·.1))) := by
  have hBg : B ≤ w.heap.size := by
    obtain ⟨cs, hg, h1, _⟩ := own_blk (n := n) (xs := allCells l) (by have := h.own; unfold OwnN at this; rw [hn] at this; exact this)
    exact Nat.le_trans h1 (Nat.le_of_lt hg.lt)
  have hgl : g < w.heap.size := by
    obtain ⟨cs, hg, h1, _⟩ := own_blk (n := n) (xs := allCells l) (by have := h.own; unfold OwnN at this; rw [hn] at this; exact this)
    exact hg.lt
  have HH := Lib.hid h
  have hii : ii < n := by rw [← hn]; exact (List.getElem?_eq_some_iff.1 hp).1
  have hnc : n ≤ c ∧ c ≤ maxLen := by have := (h.nodesIn hn).2; exact ⟨this.1, this.2.1⟩
  unfold maxLen at hnc
  have HM0 := Lib.hid (M1.start w next (some ⟨g, 0, none⟩) n c)
  have hnw : NodesIn w 0 w.heap.size (some ⟨g, 0, none⟩) n c (l.map (·.1)) := (h.nodesIn hn).mono (Nat.zero_le _) (Nat.le_refl _)
  have hpm : (l.map (·.1))[ii]? = some p.1 := by rw [List.getElem?_map, hp]; rfl
  have hix : ixOf (l.map (·.1)) id = some ii := ixOf_is hr hpm hid
  have HNi : Hid (∀ X, Below w.heap.size w X → Calls Try.prog 52 #[.agg #[.int .i64 next, .slice (some ⟨g, 0, none⟩) n c], .int .i64 id] X (Ret X (.pointer (some ⟨g, ii * 7, none⟩)))) := Lib.hid fun X hX =>
    node_any X w.heap.size next id (some ⟨g, 0, none⟩) n c (l.map (·.1)) (hnw.below hX) hX.size hr hn4 (.pointer (some ⟨g, ii * 7, none⟩)) (by rw [hix]; exact ⟨g, 0, rfl, by simp⟩)
  have hc2 : w.cell? ⟨g, ii * 7 + 2, none⟩ = some (.int .i64 p.1.par) := (h.cellT hn hp (j := 2) (by omega) rfl).1
  obtain ⟨par, hpar⟩ : ∃ par, p.1.par = par := ⟨_, rfl⟩
  rw [hpar] at hc2
  have HSof : Hid (∀ X, M1 w next (some ⟨g, 0, none⟩) n c X → X.cell? ⟨w.heap.size, 0, none⟩ = some (.int .i64 next) ∧ X.cell? ⟨w.heap.size, 1, none⟩ = some (.slice (some ⟨g, 0, none⟩) n c) ∧ X.cell? ⟨g, ii * 7 + 2, none⟩ = some (.int .i64 par)) := Lib.hid fun X hX => ⟨(hX.a.cell 0).trans rfl, (hX.a.cell 1).trans rfl, (hX.bel.cell (p := ⟨g, _, none⟩) hgl).trans hc2⟩
  have HNp : Hid (∀ X, Below w.heap.size w X → Calls Try.prog 52 #[.agg #[.int .i64 next, .slice (some ⟨g, 0, none⟩) n c], .int .i64 par] X (Ret X (.pointer none))) := Lib.hid fun X hX =>
    node_any X w.heap.size next par (some ⟨g, 0, none⟩) n c (l.map (·.1)) (hnw.below hX) hX.size hr hn4 (.pointer none) (by
      cases hx : ixOf (l.map (·.1)) par with
      | none => rfl
      | some j =>
        obtain ⟨y, hy, hye⟩ := ixOf_some hx
        have := hr.pos j y hy
        omega)
  clear h hn hr hp hid h0 hnw hpm hc2 hpar hix
  go_enter Try.func20, Try.ntmps20
  go_upto_region 1 with (fail)
  have HX := Lib.hid (HM0.out.after (below_drew1 _))
  refine wp_region_held_tail 8 (fun w' => w'.cell? ⟨w.heap.size, 0, none⟩ = some (.int .i64 next) ∧ w'.cell? ⟨w.heap.size, 1, none⟩ = some (.slice (some ⟨g, 0, none⟩) n c) ∧ w'.cell? ⟨g, ii * 7 + 2, none⟩ = some (.int .i64 par)) (by kernel_rfl) (by kernel_rfl) ?hSt (fun hHeld => ?qt0)
  case hSt => exact HSof.out _ HX.out
  case qt0 =>
    generalize (w.alloc (.cells #[.int .i64 next, .slice (some ⟨g, 0, none⟩) n c] 24)).drew = wz at HX hHeld ⊢
    simp only [List.take_succ_cons, List.take_zero, List.drop_succ_cons, List.drop_zero]
    refine wpAnyH_take (i := 0) (v := (.agg #[.int .i64 next, .slice (some ⟨g, 0, none⟩) n c])) rfl (by kernel_rfl) (by kernel_rfl) (by kernel_rfl) (fun _ _ _ h => h) (Or.inl ⟨by rfl, ?yt_1⟩) (by assumption) ?qt_1
    case yt_1 => (intro w hSw; (try dsimp only at hSw); go_simp)
    case qt_1 =>
      (try simp only [Act.put]); (try simp only [List.setIfInBounds_toArray])
      refine wpAnyH_take (i := 1) (v := (.agg #[.int .i64 next, .slice (some ⟨g, 0, none⟩) n c])) rfl (by kernel_rfl) (by kernel_rfl) (by kernel_rfl) (fun _ _ _ h => h) (Or.inl ⟨by rfl, ?yt_2⟩) (by assumption) ?qt_2
      case yt_2 => (intro w hSw; (try dsimp only at hSw); go_simp)
      case qt_2 =>
        (try simp only [Act.put]); (try simp only [List.setIfInBounds_toArray])
        refine wpAnyH_take (i := 2) (v := (.int .i64 id)) rfl (by kernel_rfl) (by kernel_rfl) (by kernel_rfl) (fun _ _ _ h => h) (Or.inl ⟨by rfl, ?yt_3⟩) (by assumption) ?qt_3
        case yt_3 => (intro w hSw; (try dsimp only at hSw); go_simp)
        case qt_3 =>
          (try simp only [Act.put]); (try simp only [List.setIfInBounds_toArray])
          refine wpAnyH_ready (rs := [3]) (by kernel_rfl) (by simp) ?_
          refine AllReadyH.cons rfl (fun K hK => ?st_4) ?mt_4
          case st_4 =>
            (refine step_call _ (by rfl) 52 #[.agg #[.int .i64 next, .slice (some ⟨g, 0, none⟩) n c], .int .i64 id] (by go_simp) (HNi.out _ HX.out.bel) ?_; rintro e Yb ⟨rfl, hbb⟩; refine ⟨_, rfl, ?_⟩; replace HX := Lib.hid (HX.out.after hbb); clear hbb)
            refine hK.out _ _ ?kt_4 (fun hHeld => ?qt_4)
            case kt_4 => ((try dsimp only); exact HSof.out _ HX.out)
            case qt_4 =>
              clear hK K
              (try simp only [Act.put]); (try simp only [List.setIfInBounds_toArray])
              refine wpAnyH_take (i := 4) (v := (.pointer (some ⟨g, ii * 7, none⟩))) rfl (by kernel_rfl) (by kernel_rfl) (by kernel_rfl) (fun _ _ _ h => h) (Or.inl ⟨by rfl, ?yt_5⟩) (by assumption) ?qt_5
              case yt_5 => (intro w hSw; (try dsimp only at hSw); go_simp)
              case qt_5 =>
                (try simp only [Act.put]); (try simp only [List.setIfInBounds_toArray])
                refine wpAnyH_take (i := 5) (v := (.pointer (some ⟨g, ii * 7 + 2, none⟩))) rfl (by kernel_rfl) (by kernel_rfl) (by kernel_rfl) (fun _ _ _ h => h) (Or.inl ⟨by rfl, ?yt_6⟩) (by assumption) ?qt_6
                case yt_6 => (intro w hSw; (try dsimp only at hSw); go_simp)
                case qt_6 =>
                  (try simp only [Act.put]); (try simp only [List.setIfInBounds_toArray])
                  refine wpAnyH_take (i := 6) (v := (.int .i64 par)) rfl (by kernel_rfl) (by kernel_rfl) (by kernel_rfl) (fun _ _ _ h => h) (Or.inl ⟨by rfl, ?yt_7⟩) (by assumption) ?qt_7
                  case yt_7 => (intro w hSw; (try dsimp only at hSw); go_simp)
                  case qt_7 =>
                    (try simp only [Act.put]); (try simp only [List.setIfInBounds_toArray])
                    refine wpAnyH_ready (rs := [7]) (by kernel_rfl) (by simp) ?_
                    refine AllReadyH.cons rfl (fun K hK => ?st_8) ?mt_8
                    case st_8 =>
                      (refine step_call _ (by rfl) 52 #[.agg #[.int .i64 next, .slice (some ⟨g, 0, none⟩) n c], .int .i64 par] (by go_simp) (HNp.out _ HX.out.bel) ?_; rintro e Yb ⟨rfl, hbb⟩; refine ⟨_, rfl, ?_⟩; replace HX := Lib.hid (HX.out.after hbb); clear hbb)
                      refine hK.out _ _ ?kt_8 (fun hHeld => ?qt_8)
                      case kt_8 => ((try dsimp only); exact HSof.out _ HX.out)
                      case qt_8 =>
                        clear hK K
                        (try simp only [Act.put]); (try simp only [List.setIfInBounds_toArray])
                        refine wpAnyH_done (by kernel_rfl) ?_ _
                        show wpList _ _ _ _ _ _
                        clear hHeld
                        go_wp2_with fail
                        (try rw [Exit.noGoto_ret])
                        (try simp only [Exit.inBlock, Exit.then])
                        first | refine bodyPost_ret (results_none (by kernel_rfl) _ _ _) rfl ?_ | refine bodyPost_end (results_none (by kernel_rfl) _ _ _) rfl ?_
                        exact ⟨rfl, l, HH.out.after HX.out.bel, grown_below (World.grownBy.refl w _) HX.out.bel, rfl⟩
                    case mt_8 =>
                      exact AllReadyH.nil
          case mt_4 =>
            exact AllReadyH.nil
set_option maxRecDepth 20000 in
set_option maxHeartbeats 3200000 in
theorem takeBelow_any (w : World) (B : Nat) (next id : Int) (g n c : Nat) (l : List (Nd × Leaf)) (h : OwnM w B (.slice (some ⟨g, 0, none⟩) n c) l) (hn : l.length = n) (hn4 : n ≤ 4096) (hr : Rise (l.map (·.1))) (ii : Nat) (p : Nd × Leaf) (hp : l[ii]? = some p) (hid : p.1.id = id) (h0 : p.1.par ≠ 0)
    (jj : Nat) (x : Nd) (M : Leaf) (hx1 : l[jj]? = some (x, M)) (hx2 : x.id = p.1.par) (hkl : x.kids.length ≤ 4096) (hk0 : 0 < x.kids.length) :
    Calls Try.prog 20 #[.agg #[.int .i64 next, .slice (some ⟨g, 0, none⟩) n c], .int .i64 id] w (PutPost w B g n c ((l.map (·.1)).set jj { x with kids := lessI id x.kids })) := by
  have hBg : B ≤ w.heap.size := by
    obtain ⟨cs, hg, h1, _⟩ := own_blk (n := n) (xs := allCells l) (by have := h.own; unfold OwnN at this; rw [hn] at this; exact this)
    exact Nat.le_trans h1 (Nat.le_of_lt hg.lt)
  have hgl : g < w.heap.size := by
    obtain ⟨cs, hg, h1, _⟩ := own_blk (n := n) (xs := allCells l) (by have := h.own; unfold OwnN at this; rw [hn] at this; exact this)
    exact hg.lt
  have HH := Lib.hid h
  have hii : ii < n := by rw [← hn]; exact (List.getElem?_eq_some_iff.1 hp).1
  have hnc : n ≤ c ∧ c ≤ maxLen := by have := (h.nodesIn hn).2; exact ⟨this.1, this.2.1⟩
  unfold maxLen at hnc
  have HM0 := Lib.hid (M1.start w next (some ⟨g, 0, none⟩) n c)
  have hnw : NodesIn w 0 w.heap.size (some ⟨g, 0, none⟩) n c (l.map (·.1)) := (h.nodesIn hn).mono (Nat.zero_le _) (Nat.le_refl _)
  have hpm : (l.map (·.1))[ii]? = some p.1 := by rw [List.getElem?_map, hp]; rfl
  have hix : ixOf (l.map (·.1)) id = some ii := ixOf_is hr hpm hid
  have HNi : Hid (∀ X, Below w.heap.size w X → Calls Try.prog 52 #[.agg #[.int .i64 next, .slice (some ⟨g, 0, none⟩) n c], .int .i64 id] X (Ret X (.pointer (some ⟨g, ii * 7, none⟩)))) := Lib.hid fun X hX =>
    node_any X w.heap.size next id (some ⟨g, 0, none⟩) n c (l.map (·.1)) (hnw.below hX) hX.size hr hn4 (.pointer (some ⟨g, ii * 7, none⟩)) (by rw [hix]; exact ⟨g, 0, rfl, by simp⟩)
  have hc2 : w.cell? ⟨g, ii * 7 + 2, none⟩ = some (.int .i64 p.1.par) := (h.cellT hn hp (j := 2) (by omega) rfl).1
  obtain ⟨par, hpar⟩ : ∃ par, p.1.par = par := ⟨_, rfl⟩
  rw [hpar] at hc2
  have HSof : Hid (∀ X, M1 w next (some ⟨g, 0, none⟩) n c X → X.cell? ⟨w.heap.size, 0, none⟩ = some (.int .i64 next) ∧ X.cell? ⟨w.heap.size, 1, none⟩ = some (.slice (some ⟨g, 0, none⟩) n c) ∧ X.cell? ⟨g, ii * 7 + 2, none⟩ = some (.int .i64 par)) := Lib.hid fun X hX => ⟨(hX.a.cell 0).trans rfl, (hX.a.cell 1).trans rfl, (hX.bel.cell (p := ⟨g, _, none⟩) hgl).trans hc2⟩
  have hjj : jj < n := by rw [← hn]; exact (List.getElem?_eq_some_iff.1 hx1).1
  have hxm : (l.map (·.1))[jj]? = some x := by rw [List.getElem?_map, hx1]; rfl
  have HNp : Hid (∀ X, Below w.heap.size w X → Calls Try.prog 52 #[.agg #[.int .i64 next, .slice (some ⟨g, 0, none⟩) n c], .int .i64 par] X (Ret X (.pointer (some ⟨g, jj * 7, none⟩)))) := Lib.hid fun X hX =>
    node_any X w.heap.size next par (some ⟨g, 0, none⟩) n c (l.map (·.1)) (hnw.below hX) hX.size hr hn4 (.pointer (some ⟨g, jj * 7, none⟩)) (by rw [ixOf_is hr hxm (by rw [hx2, hpar])]; exact ⟨g, 0, rfl, by simp⟩)
  obtain ⟨⟨Ap, np, cp⟩, ⟨Ak, nk, ck⟩, ⟨Ar, nr, cr⟩⟩ := M
  have hlf := h.leaf _ (List.mem_of_getElem? hx1)
  have hkn : nk = x.kids.length := hlf.kn
  have hrow := own_row hlf.k
  simp only at hrow
  have hrow0 : Row w 0 w.heap.size 1 Ak nk ck (intCells x.kids) := hrow.mono (Nat.zero_le _) (Nat.le_refl _)
  have hnk := hrow.2.1
  have hck := hrow.2.2.1
  unfold maxLen at hck
  have hc5 := (h.cellT hn hx1 (j := 5) (by omega) rfl).1
  simp only at hc5
  have HC5 : Hid (∀ X, Below w.heap.size w X → X.cell? ⟨g, jj * 7 + 5, none⟩ = some (.slice Ak nk ck)) := Lib.hid fun X hX => (hX.cell (p := ⟨g, _, none⟩) hgl).trans hc5
  obtain ⟨bk, ok, hAk, _, hbk, hck2⟩ := hrow0.2.2.2 (by omega)
  subst hAk
  have HCK : Hid (∀ (X : World), Below w.heap.size w X → ∀ (k : Nat) kid, x.kids[k]? = some kid → X.cell? ⟨bk, ok + k, none⟩ = some (.int .i64 kid)) := Lib.hid fun X hX k kid hk => (hX.cell (p := ⟨bk, ok + k, none⟩) hbk).trans (hck2 k _ (intCells_get hk))
  have HKN := Lib.hid hkn
  have hnk4 : nk ≤ 4096 := by omega
  obtain ⟨m, hm⟩ : ∃ m, nk = m + 1 := ⟨nk - 1, by omega⟩
  have HLN := Lib.hid hn
  have HX1 := Lib.hid hx1
  obtain ⟨i0, hi0, hz0, hz1, hz2⟩ := info_parts intInfo
  obtain ⟨cur, hcs, hmk⟩ := make_room 41 3 i0 _ 8 Try.underlying41 hi0 hz0 hz1 hz2 rfl m (by omega) (by omega)
  have HCS := Lib.hid hcs
  have hmi : (nk : Int) - 1 = (m : Int) := by omega
  have HM1 := Lib.hid hm
  clear h hn hr hp hid h0 hnw hpm hc2 hpar hx1 hx2 hkl hk0 hxm hlf hkn hrow hrow0 hc5 hck2 hix hcs hm
  go_enter Try.func20, Try.ntmps20
  go_upto_region 1 with (fail)
  have HX := Lib.hid (HM0.out.after (below_drew1 _))
  refine wp_region_held_tail 8 (fun w' => w'.cell? ⟨w.heap.size, 0, none⟩ = some (.int .i64 next) ∧ w'.cell? ⟨w.heap.size, 1, none⟩ = some (.slice (some ⟨g, 0, none⟩) n c) ∧ w'.cell? ⟨g, ii * 7 + 2, none⟩ = some (.int .i64 par)) (by kernel_rfl) (by kernel_rfl) ?hSt (fun hHeld => ?qt0)
  case hSt => exact HSof.out _ HX.out
  case qt0 =>
    generalize (w.alloc (.cells #[.int .i64 next, .slice (some ⟨g, 0, none⟩) n c] 24)).drew = wz at HX hHeld ⊢
    simp only [List.take_succ_cons, List.take_zero, List.drop_succ_cons, List.drop_zero]
    refine wpAnyH_take (i := 0) (v := (.agg #[.int .i64 next, .slice (some ⟨g, 0, none⟩) n c])) rfl (by kernel_rfl) (by kernel_rfl) (by kernel_rfl) (fun _ _ _ h => h) (Or.inl ⟨by rfl, ?yt_1⟩) (by assumption) ?qt_1
    case yt_1 => (intro w hSw; (try dsimp only at hSw); go_simp)
    case qt_1 =>
      (try simp only [Act.put]); (try simp only [List.setIfInBounds_toArray])
      refine wpAnyH_take (i := 1) (v := (.agg #[.int .i64 next, .slice (some ⟨g, 0, none⟩) n c])) rfl (by kernel_rfl) (by kernel_rfl) (by kernel_rfl) (fun _ _ _ h => h) (Or.inl ⟨by rfl, ?yt_2⟩) (by assumption) ?qt_2
      case yt_2 => (intro w hSw; (try dsimp only at hSw); go_simp)
      case qt_2 =>
        (try simp only [Act.put]); (try simp only [List.setIfInBounds_toArray])
        refine wpAnyH_take (i := 2) (v := (.int .i64 id)) rfl (by kernel_rfl) (by kernel_rfl) (by kernel_rfl) (fun _ _ _ h => h) (Or.inl ⟨by rfl, ?yt_3⟩) (by assumption) ?qt_3
        case yt_3 => (intro w hSw; (try dsimp only at hSw); go_simp)
        case qt_3 =>
          (try simp only [Act.put]); (try simp only [List.setIfInBounds_toArray])
          refine wpAnyH_ready (rs := [3]) (by kernel_rfl) (by simp) ?_
          refine AllReadyH.cons rfl (fun K hK => ?st_4) ?mt_4
          case st_4 =>
            (refine step_call _ (by rfl) 52 #[.agg #[.int .i64 next, .slice (some ⟨g, 0, none⟩) n c], .int .i64 id] (by go_simp) (HNi.out _ HX.out.bel) ?_; rintro e Yb ⟨rfl, hbb⟩; refine ⟨_, rfl, ?_⟩; replace HX := Lib.hid (HX.out.after hbb); clear hbb)
            refine hK.out _ _ ?kt_4 (fun hHeld => ?qt_4)
            case kt_4 => ((try dsimp only); exact HSof.out _ HX.out)
            case qt_4 =>
              clear hK K
              (try simp only [Act.put]); (try simp only [List.setIfInBounds_toArray])
              refine wpAnyH_take (i := 4) (v := (.pointer (some ⟨g, ii * 7, none⟩))) rfl (by kernel_rfl) (by kernel_rfl) (by kernel_rfl) (fun _ _ _ h => h) (Or.inl ⟨by rfl, ?yt_5⟩) (by assumption) ?qt_5
              case yt_5 => (intro w hSw; (try dsimp only at hSw); go_simp)
              case qt_5 =>
                (try simp only [Act.put]); (try simp only [List.setIfInBounds_toArray])
                refine wpAnyH_take (i := 5) (v := (.pointer (some ⟨g, ii * 7 + 2, none⟩))) rfl (by kernel_rfl) (by kernel_rfl) (by kernel_rfl) (fun _ _ _ h => h) (Or.inl ⟨by rfl, ?yt_6⟩) (by assumption) ?qt_6
                case yt_6 => (intro w hSw; (try dsimp only at hSw); go_simp)
                case qt_6 =>
                  (try simp only [Act.put]); (try simp only [List.setIfInBounds_toArray])
                  refine wpAnyH_take (i := 6) (v := (.int .i64 par)) rfl (by kernel_rfl) (by kernel_rfl) (by kernel_rfl) (fun _ _ _ h => h) (Or.inl ⟨by rfl, ?yt_7⟩) (by assumption) ?qt_7
                  case yt_7 => (intro w hSw; (try dsimp only at hSw); go_simp)
                  case qt_7 =>
                    (try simp only [Act.put]); (try simp only [List.setIfInBounds_toArray])
                    refine wpAnyH_ready (rs := [7]) (by kernel_rfl) (by simp) ?_
                    refine AllReadyH.cons rfl (fun K hK => ?st_8) ?mt_8
                    case st_8 =>
                      (refine step_call _ (by rfl) 52 #[.agg #[.int .i64 next, .slice (some ⟨g, 0, none⟩) n c], .int .i64 par] (by go_simp) (HNp.out _ HX.out.bel) ?_; rintro e Yb ⟨rfl, hbb⟩; refine ⟨_, rfl, ?_⟩; replace HX := Lib.hid (HX.out.after hbb); clear hbb)
                      refine hK.out _ _ ?kt_8 (fun hHeld => ?qt_8)
                      case kt_8 => ((try dsimp only); exact HSof.out _ HX.out)
                      case qt_8 =>
                        clear hK K
                        (try simp only [Act.put]); (try simp only [List.setIfInBounds_toArray])
                        refine wpAnyH_done (by kernel_rfl) ?_ _
                        show wpList _ _ _ _ _ _
                        clear hHeld
                        have q2 := HC5.out _ HX.out.bel
                        go_upto_region 4 with (fail)
                        have HM3 := Lib.hid (HX.out.after (below_more (Below.refl _ _) (.cells cur 3)))
                        rename World => wy
                        have HO3 := Lib.hid (own_room (B := w.heap.size) (Blk.new wy 3 cur) HX.out.bel.size HCS.out (by unfold maxLen; omega))
                        have q3 := HC5.out _ HM3.out.bel
                        clear q2
                        go_wp2_with (fail)
                        go_loopw [5, 30] (fun v s30 wr => ∃ (k : Nat), k ≤ nk ∧ s30 = .int .i64 k ∧ KW w next (some ⟨g, 0, none⟩) n c v (lessI id (x.kids.take k)) wr) (fun _ v _ => nk - (intOf v).toNat)
                        case atStart => exact ⟨0, Nat.zero_le _, rfl, ⟨HM3.out, HO3.out⟩⟩
                        case round =>
                          obtain ⟨k, hk, rfl, W⟩ := hrel
                          obtain ⟨fo, hfo⟩ : ∃ fo, lessI id (x.kids.take k) = fo := ⟨_, rfl⟩
                          rw [hfo] at W
                          have hfl : fo.length ≤ k := by
                            rw [← hfo]
                            have := lessI_len id (x.kids.take k)
                            rw [List.length_take] at this
                            omega
                          have HFO := Lib.hid hfo
                          have HW := Lib.hid W
                          clear W hfo q3
                          rename World => wr
                          by_cases hlt : k < nk
                          · obtain ⟨kid, hkid⟩ : ∃ kid, x.kids[k]? = some kid := ⟨x.kids[k]'(by have := HKN.out; omega), List.getElem?_eq_getElem _⟩
                            have q4 := HCK.out _ HW.out.m.bel k kid hkid
                            have HKD := Lib.hid hkid
                            clear hkid
                            cases hne : (kid != id) with
                            | false =>
                              have hnb : (kid == id) = true := by rw [beq_iff_eq]; exact bne_eq_false_iff_eq.1 hne
                              go_wp2_with fail
                              go_roundw
                              case rel =>
                                refine ⟨k + 1, by omega, rfl, ?_⟩
                                rw [lessI_succ id x.kids HKD.out, hne, if_neg (by decide), List.append_nil, HFO.out]
                                exact HW.out
                              case measure => simp [intOf]; omega
                            | true =>
                              have hnb : (kid == id) = false := by rw [beq_eq_false_iff_ne]; exact bne_iff_ne.1 hne
                              have HNE := Lib.hid hne
                              go_wp2_with (at_builtin; (with_reducible show wpList _ _ _ (⟨some 40, _, _, _, _, _⟩ :: _) _ _); go_must (refine wpList_app _ rfl (.tmp 37) (.tmp 39) _ rfl w.heap.size 3 i0 _ 1 8 Try.underlying41 hi0 hz0 hz1 hz2 rfl (by omega) u5 fo.length (intCells fo) rfl (own_after HW.out.own (below_more (Below.refl _ _) _)) wr.heap.size (wr.heap.size + 1) (some ⟨wr.heap.size, 0, none⟩) 1 1 [.int .i64 kid] rfl (row_blk (n := 1) (Blk.new' rfl) rfl (Nat.le_refl _) (by unfold maxLen; omega)) (by simp [Value.oneCell']) (by unfold maxLen; omega) (by omega) (Nat.le_trans HW.out.m.bel.size (by simp)) ?_); go_must (intro v8 w8 hown8 hg8 _; have HX8 := Lib.hid ((HW.out.after (below_more (Below.refl _ _) _)).push hg8 hown8); clear hown8 hg8))
                              go_roundw
                              case rel =>
                                refine ⟨k + 1, by omega, rfl, ?_⟩
                                rw [lessI_succ id x.kids HKD.out, HNE.out, if_pos rfl, HFO.out]
                                exact HX8.out
                              case measure => simp [intOf]; omega
                          · have hkn : k = nk := by omega
                            subst hkn
                            have hfe : fo = lessI id x.kids := by rw [← HFO.out, List.take_of_length_le (by have := HKN.out; omega)]
                            have HFE := Lib.hid hfe
                            clear hfe
                            obtain ⟨Av, cv, hv⟩ := own_form HW.out.own
                            subst hv
                            have hr9 : RB w B next g n c l wr := ⟨HW.out.m.a, grown_below (World.grownBy.refl w _) HW.out.m.bel, HH.out.after HW.out.m.bel⟩
                            have hlf9 := hr9.own.leaf _ (List.mem_of_getElem? HX1.out)
                            have HR10 := Lib.hid (hr9.store (q := ({ x with kids := fo }, ⟨⟨Ap, np, cp⟩, ⟨Av, fo.length, cv⟩, ⟨Ar, nr, cr⟩⟩)) (u := .slice Av fo.length cv) HLN.out HX1.out (j := 5) (by omega) rfl ⟨hlf9.pn, rfl, hlf9.rn, hlf9.p, own_mono HW.out.own hBg, hlf9.r, ⟨hlf9.sz.con, hlf9.sz.role, hlf9.sz.props, hlf9.sz.refs⟩⟩)
                            have f9 := hr9.frozenAt (j := jj * 7 + 5) HLN.out
                            have q9 := hr9.cellAt HLN.out HX1.out (j := 5) (by omega) rfl
                            simp only at q9
                            clear hr9 hlf9
                            go_wp2_with fail
                            (try rw [Exit.noGoto_ret])
                            (try simp only [Exit.inBlock, Exit.then])
                            first | refine bodyPost_ret (results_none (by kernel_rfl) _ _ _) rfl ?_ | refine bodyPost_end (results_none (by kernel_rfl) _ _ _) rfl ?_
                            exact ⟨rfl, _, HR10.out.own, HR10.out.gr, by rw [List.map_set, HFE.out]⟩
                    case mt_8 =>
                      exact AllReadyH.nil
          case mt_4 =>
            exact AllReadyH.nil
end Go.Proofs.Ytfljndlmafcjeaa
namespace Go.Proofs.Ytfljndlmafcjeaa
open Go Go.RowKit Go.Sort
set_option linter.unusedVariables false
attribute [local go_sem ↓] Go.wp_at_zero Go.wp_at_succ
theorem row_take {w : World} {lo hi n c a : Nat} {A : Option Addr} {xs : List Value} (h : Row w lo hi 1 A n c xs) (ha : a ≤ n) : Row w lo hi 1 A a c (xs.take a) := by
  refine ⟨by rw [List.length_take, h.1]; omega, Nat.le_trans ha h.2.1, h.2.2.1, fun h0 => ?_⟩
  obtain ⟨b, o, hA, h1, h2, hc⟩ := h.2.2.2 (by omega)
  refine ⟨b, o, hA, h1, h2, fun j u hj => hc j u ?_⟩
  rw [List.getElem?_take] at hj
  split at hj
  · exact hj
  · cases hj
theorem row_drop {w : World} {lo hi n c a b o : Nat} {xs : List Value} (h : Row w lo hi 1 (some ⟨b, o, none⟩) n c xs) (ha : a ≤ n) : Row w lo hi 1 (some ⟨b, o + a, none⟩) (n - a) (c - a) (xs.drop a) := by
  have hm := h.2.2.1
  have hn := h.2.1
  refine ⟨by rw [List.length_drop, h.1]; omega, by omega, by omega, fun h0 => ?_⟩
  obtain ⟨b', o', hA, h1, h2, hc⟩ := h.2.2.2 (by omega)
  injection hA with hA
  injection hA with e1 e2 _
  subst e1 e2
  refine ⟨_, _, rfl, h1, h2, fun j u hj => ?_⟩
  rw [List.getElem?_drop] at hj
  have := hc _ u hj
  rwa [← Nat.add_assoc] at this
theorem own_nil {B size : Nat} {e : TypeId} (w : World) : w.ownsRow B e size (.slice none 0 0) 0 [] := ⟨by simp, .inl ⟨rfl, rfl⟩⟩
theorem row_none {w : World} {lo hi c : Nat} {A : Option Addr} (hc : c ≤ maxLen) : Row w lo hi 1 A 0 c [] := ⟨rfl, Nat.zero_le _, hc, fun h => absurd h (by omega)⟩
section
variable {w X X' : World} {next : Int} {A : Option Addr} {n c : Nat} {ov : Value} {l : List Int}
theorem KW.app {v' : Value} {m : Nat} {l2 : List Int} (h : KW w next A n c ov [] X) (hg : X.grownBy X' ov.ownBlock) (hown : X'.ownsRow w.heap.size 3 1 v' m (intCells l2)) (hm : l2.length = m) : KW w next A n c v' l2 X' :=
  ⟨⟨h.m.a.grown hg (Ne.symm (own_blk_ne h.own h.m.a (by decide))), below_grows h.m.bel hg h.own (Nat.le_refl _)⟩, by rw [hm]; exact hown⟩
theorem KW.app2 {v' : Value} {m m2 : Nat} {l2 : List Int} (h : KW w next A n c ov l X) (hg : X.grownBy X' ov.ownBlock) (hown : X'.ownsRow w.heap.size 3 1 v' (m + m2) (intCells l ++ intCells l2)) (hm : l.length = m) (hm2 : l2.length = m2) : KW w next A n c v' (l ++ l2) X' :=
  ⟨⟨h.m.a.grown hg (Ne.symm (own_blk_ne h.own h.m.a (by decide))), below_grows h.m.bel hg h.own (Nat.le_refl _)⟩, by rw [List.length_append, hm, hm2, show intCells (l ++ l2) = intCells l ++ intCells l2 from by simp [intCells]]; exact hown⟩
end
set_option maxRecDepth 100000 in
set_option maxHeartbeats 6400000 in
theorem refPut_any (w : World) (B : Nat) (next id parent at_ : Int) (role : ByteArray) (g n c : Nat) (l : List (Nd × Leaf)) (h : OwnM w B (.slice (some ⟨g, 0, none⟩) n c) l) (hn : l.length = n) (hn4 : n ≤ 4096) (hr : Rise (l.map (·.1))) (ii : Nat) (p : Nd × Leaf) (hp : l[ii]? = some p) (hid : p.1.id = id) (hrs : role.size ≤ maxLen)
    (jj a : Nat) (x : Nd) (M : Leaf) (hpz : parent ≠ 0) (hx1 : l[jj]? = some (x, M)) (hx2 : x.id = parent) (hx3 : jj ≠ ii) (hx4 : a ≤ x.kids.length) (hx5 : KOk (l.map (·.1)) x) (hx6 : beforeV (inRoleB (l.map (·.1)) role) at_ x.kids = a)
    (nds' : List Nd) (hpost : nds' = ((l.map (·.1)).set ii { p.1 with par := parent, role := role }).set jj { x with kids := insAt x.kids a id }) :
    Calls Try.prog 33 #[.agg #[.int .i64 next, .slice (some ⟨g, 0, none⟩) n c], .int .i64 id, .int .i64 parent, .string role, .int .i64 at_] w (PutPost w B g n c nds') := by
  have hBg : B ≤ w.heap.size := by
    obtain ⟨cs, hg, h1, _⟩ := own_blk (n := n) (xs := allCells l) (by have := h.own; unfold OwnN at this; rw [hn] at this; exact this)
    exact Nat.le_trans h1 (Nat.le_of_lt hg.lt)
  have hgl : g < w.heap.size := by
    obtain ⟨cs, hg, h1, _⟩ := own_blk (n := n) (xs := allCells l) (by have := h.own; unfold OwnN at this; rw [hn] at this; exact this)
    exact hg.lt
  have HH := Lib.hid h
  have HM0 := Lib.hid (M1.start w next (some ⟨g, 0, none⟩) n c)
  have hnw : NodesIn w 0 w.heap.size (some ⟨g, 0, none⟩) n c (l.map (·.1)) := (h.nodesIn hn).mono (Nat.zero_le _) (Nat.le_refl _)
  have hxm : (l.map (·.1))[jj]? = some x := by rw [List.getElem?_map, hx1]; rfl
  have HBf := Lib.hid (refBefore_any _ w.heap.size next parent at_ role _ n c _ (hnw.below HM0.out.bel) HM0.out.bel.size x hx5 (by rw [← hx2]; exact ndOf_is hr hxm) a hx6)
  have HAtp : Hid (∀ X, Below w.heap.size w X → Calls Try.prog 26 #[.agg #[.int .i64 next, .slice (some ⟨g, 0, none⟩) n c], .int .i64 parent] X (Ret X (.int .i64 jj))) := Lib.hid fun X hX => by
    have h1 := refAt_any X w.heap.size next parent _ n c _ (hnw.below hX) hX.size hr hn4
    rw [show atV (l.map (·.1)) parent = jj from by unfold atV; rw [ixOf_is hr hxm hx2]] at h1
    exact h1
  obtain ⟨⟨Ap, np, cp⟩, ⟨Ak, nk, ck⟩, ⟨Ar, nr, cr⟩⟩ := M
  have hlf := h.leaf _ (List.mem_of_getElem? hx1)
  have hkn : nk = x.kids.length := hlf.kn
  have hrow := own_row hlf.k
  simp only at hrow
  have hrow0 : Row w 0 w.heap.size 1 Ak nk ck (intCells x.kids) := hrow.mono (Nat.zero_le _) (Nat.le_refl _)
  have hnk := hrow.2.1
  have hck := hrow.2.2.1
  unfold maxLen at hck
  have ha : a ≤ nk := by omega
  have hkl : nk ≤ 4096 := by have := hx5.kl; omega
  have HRT : Hid (∀ X, Below w.heap.size w X → Row X 0 w.heap.size 1 Ak a ck (intCells (x.kids.take a))) := Lib.hid fun X hX => by
    have := row_take (hrow0.below hX) ha
    unfold intCells at this ⊢
    rwa [← List.map_take] at this
  have HRW : Hid (∀ X, Below w.heap.size w X → Row X 0 w.heap.size 1 Ak nk ck (intCells x.kids)) := Lib.hid fun X hX => hrow0.below hX
  have HTL : Hid ((x.kids.take a).length = a) := Lib.hid (by rw [List.length_take]; omega)
  have HTL8 : Hid ((x.kids.take a ++ [id]).length = a + 1) := Lib.hid (by rw [List.length_append, List.length_take, List.length_singleton]; omega)
  have HDL : Hid ((x.kids.drop a).length = nk - a) := Lib.hid (by rw [List.length_drop]; omega)
  have hR := RB.start (next := next) h
  have hc5 : w.cell? ⟨g, jj * 7 + 5, none⟩ = some (.slice Ak nk ck) := by
    have := PB.cellAt (PB.start (parent := 0) (role := ⟨#[]⟩) (at_ := 0) (next := next) h) hn hx1 (j := 5) (by omega) rfl
    rw [← this]
    exact ((below_more (below_more (Below.refl _ _) _) _).cell (p := ⟨g, _, none⟩) hgl).symm
  have hf5 : w.frozen? ⟨g, jj * 7 + 5, none⟩ = false := by
    have := World.ownsRow.frozenAt (n := n) (xs := allCells l) (by have := h.own; unfold OwnN at this; rw [hn] at this; exact this) (jj * 7 + 5)
    exact this
  have HAT : Hid (∀ X, Below w.heap.size w X → X.cell? ⟨g, jj * 7 + 5, none⟩ = some (.slice Ak nk ck)) := Lib.hid fun X hX => (hX.cell (p := ⟨g, _, none⟩) hgl).trans hc5
  have HFZ : Hid (∀ X, Below w.heap.size w X → X.frozen? ⟨g, jj * 7 + 5, none⟩ = false) := Lib.hid fun X hX => (hX.frozen (p := ⟨g, _, none⟩) hgl).trans hf5
  have d0 : (parent == 0) = false := by rw [beq_eq_false_iff_ne]; exact hpz
  have hjn : jj < n := by rw [← hn]; exact (List.getElem?_eq_some_iff.1 hx1).1
  have HPOST := Lib.hid hpost
  obtain ⟨i0, hi0, hz0, hz1, hz2⟩ := info_parts intInfo
  have HKN := Lib.hid hkn
  have HLN := Lib.hid hn
  have HPP := Lib.hid hp
  have HX1 := Lib.hid hx1
  have HRI := Lib.hid hr
  have HRS := Lib.hid hrs
  have HIDp := Lib.hid hid
  have HX3 := Lib.hid hx3
  clear h hn hr hp hid hrs hx1 hx3 hx5 hx6 hpost hnw hxm hlf hkn hrow hrow0 hR hc5 hf5
  go_enter Try.func33, Try.ntmps33
  go_upto_region 7 with (first | (go_at_call 59; go_must (refine HBf.out.mono ?_; rintro e w4 ⟨rfl, hb4⟩; have hm4 := HM0.out.after hb4; have m40 := (hm4.a.cell 0).trans (show _ = some (.int .i64 next) from rfl); have m41 := (hm4.a.cell 1).trans (show _ = some (.slice (some ⟨g, 0, none⟩) n c) from rfl); have HM4 := Lib.hid hm4; clear hm4 hb4)) | (go_at_call 26; go_must (refine (HAtp.out _ HM4.out.bel).mono ?_; rintro e w5 ⟨rfl, hb5⟩; have hm5 := HM4.out.after hb5; have m50 := (hm5.a.cell 0).trans (show _ = some (.int .i64 next) from rfl); have m51 := (hm5.a.cell 1).trans (show _ = some (.slice (some ⟨g, 0, none⟩) n c) from rfl); have k55 := HAT.out _ hm5.bel; have HM5 := Lib.hid hm5; clear hm5 hb5)))
  have HKN5 : Hid (KW w next (some ⟨g, 0, none⟩) n c (.slice none 0 0) [] w5) := Lib.hid ⟨HM5.out, ⟨rfl, .inl ⟨rfl, rfl⟩⟩⟩
  go_upto_region 9 with (first | (at_builtin; (with_reducible show wpList _ _ _ (⟨some 46, _, _, _, _, _⟩ :: _) _ _); go_must (refine wpList_app _ rfl (.tmp 37) (.tmp 45) _ rfl w.heap.size 3 i0 _ 1 8 Try.underlying41 hi0 hz0 hz1 hz2 rfl (by omega) (.slice none 0 0) 0 [] rfl (own_nil _) 0 w.heap.size Ak a ck (intCells (x.kids.take a)) rfl (HRT.out _ HM5.out.bel) (intCells_one _) (by unfold maxLen; omega) (by omega) HM5.out.bel.size ?_); go_must (intro v7 w7 hown7 hg7 _; obtain ⟨A7, c7, rfl⟩ := own_form hown7; rw [Nat.zero_add, List.nil_append] at hown7; have hK7 : KW w next (some ⟨g, 0, none⟩) n c (.slice A7 a c7) (x.kids.take a) w7 := HKN5.out.app hg7 hown7 HTL.out; have m70 := (hK7.m.a.cell 0).trans (show _ = some (.int .i64 next) from rfl); have m71 := (hK7.m.a.cell 1).trans (show _ = some (.slice (some ⟨g, 0, none⟩) n c) from rfl); have HK7 := Lib.hid hK7; have HO7 := Lib.hid hown7; rw [Nat.zero_add]; clear hK7 hown7 hg7)) | (at_builtin; (with_reducible show wpList _ _ _ (⟨some 50, _, _, _, _, _⟩ :: _) _ _); go_must (refine wpList_app _ rfl (.tmp 47) (.tmp 49) _ rfl w.heap.size 3 i0 _ 1 8 Try.underlying41 hi0 hz0 hz1 hz2 rfl (by omega) (.slice A7 a c7) a (intCells (x.kids.take a)) rfl (own_after HO7.out (below_more (Below.refl _ _) _)) w7.heap.size (w7.heap.size + 1) (some ⟨w7.heap.size, 0, none⟩) 1 1 [.int .i64 id] rfl (row_blk (n := 1) (Blk.new' rfl) rfl (Nat.le_refl _) (by unfold maxLen; omega)) (by simp [Value.oneCell']) (by unfold maxLen; omega) (by omega) (Nat.le_trans HK7.out.m.bel.size (by simp)) ?_); go_must (intro v8 w8 hown8 hg8 _; obtain ⟨A8, c8, rfl⟩ := own_form hown8; have hK8 : KW w next (some ⟨g, 0, none⟩) n c (.slice A8 (a + 1) c8) (x.kids.take a ++ [id]) w8 := (HK7.out.after (below_more (Below.refl _ _) _)).push hg8 (by rw [HTL.out]; exact hown8); have m80 := (hK8.m.a.cell 0).trans (show _ = some (.int .i64 next) from rfl); have m81 := (hK8.m.a.cell 1).trans (show _ = some (.slice (some ⟨g, 0, none⟩) n c) from rfl); have k85 := HAT.out _ hK8.m.bel; have HK8 := Lib.hid hK8; rw [show intCells (x.kids.take a) ++ [.int .i64 id] = intCells (x.kids.take a ++ [id]) from by simp [intCells]] at hown8; have HO8 := Lib.hid hown8; clear hK8 hown8 hg8)))
  go_cut [12] (fun s12 wx => ∃ (A9 : Option Addr) (c9 : Nat), s12 = .slice A9 (nk + 1) c9 ∧ Hid (KW w next (some ⟨g, 0, none⟩) n c (.slice A9 (nk + 1) c9) (insAt x.kids a id) wx))
  case first =>
    have hko := (HH.out.leaf _ (List.mem_of_getElem? HX1.out)).k
    have hin : (x.kids.take a ++ [id]) ++ x.kids.drop a = insAt x.kids a id := by simp [insAt]
    have HIN := Lib.hid hin
    have hnn : a + 1 + (nk - a) = nk + 1 := by omega
    have HNN := Lib.hid hnn
    clear hin hnn
    rcases hko.2 with ⟨hv, _⟩ | ⟨g', cap', cur', hv, _⟩
    · simp only at hv
      injection hv with v1 v2 v3
      subst v1 v3
      have ha0 : a = 0 := by omega
      have hn0 : nk = 0 := by omega
      subst ha0 hn0
      clear hko v2
      go_wp2_with (at_builtin; (with_reducible show wpList _ _ _ (⟨some 60, _, _, _, _, _⟩ :: _) _ _); go_must (refine wpList_app _ rfl (.tmp 51) (.tmp 59) _ rfl w.heap.size 3 i0 _ 1 8 Try.underlying41 hi0 hz0 hz1 hz2 rfl (by omega) (.slice A8 (0 + 1) c8) (0 + 1) (intCells (x.kids.take 0 ++ [id])) rfl HO8.out 0 w.heap.size none (0 - 0) (0) (intCells (x.kids.drop 0)) rfl (HRW.out _ HK8.out.m.bel) (intCells_one _) (by unfold maxLen; omega) (by omega) HK8.out.m.bel.size ?_); go_must (intro v9 w9 hown9 hg9 _; obtain ⟨A9, c9, rfl⟩ := own_form hown9; have hK9 : KW w next (some ⟨g, 0, none⟩) n c (.slice A9 (0 + 1 + (0 - 0)) c9) ((x.kids.take 0 ++ [id]) ++ x.kids.drop 0) w9 := HK8.out.app2 hg9 hown9 HTL8.out (by have := HDL.out; omega); rw [HIN.out, HNN.out] at hK9; have HK9 := Lib.hid hK9; rw [HNN.out]; clear hK9 hown9 hg9))
      go_meet
      exact ⟨A9, c9, rfl, HK9⟩
    · simp only at hv
      injection hv with v1 v2 v3
      subst v1
      clear hko v2 v3
      have HRD : Hid (∀ X, Below w.heap.size w X → Row X 0 w.heap.size 1 (some ⟨g', a, none⟩) (nk - a) (ck - a) (intCells (x.kids.drop a))) := Lib.hid fun X hX => by
        have := row_drop (HRW.out X hX) ha
        unfold intCells at this ⊢
        rwa [← List.map_drop, Nat.zero_add] at this
      by_cases hcc : ck = a
      · have hna : nk = a := by omega
        subst hcc
        subst hna
        have HRE : Hid (∀ X, Below w.heap.size w X → Row X 0 w.heap.size 1 (some ⟨g', 0, none⟩) 0 0 (intCells (x.kids.drop nk))) := Lib.hid fun X hX => by
          rw [List.drop_eq_nil_of_le (by have := HKN.out; omega)]
          exact row_none (Nat.zero_le _)
        have HNN : Hid (nk + 1 + 0 = nk + 1) := Lib.hid rfl
        clear ha
        go_wp2_with (at_builtin; (with_reducible show wpList _ _ _ (⟨some 60, _, _, _, _, _⟩ :: _) _ _); go_must (refine wpList_app _ rfl (.tmp 51) (.tmp 59) _ rfl w.heap.size 3 i0 _ 1 8 Try.underlying41 hi0 hz0 hz1 hz2 rfl (by omega) (.slice A8 (nk + 1) c8) (nk + 1) (intCells (x.kids.take nk ++ [id])) rfl HO8.out 0 w.heap.size (some ⟨g', 0, none⟩) (0) (0) (intCells (x.kids.drop nk)) rfl (HRE.out _ HK8.out.m.bel) (intCells_one _) (by unfold maxLen; omega) (by omega) HK8.out.m.bel.size ?_); go_must (intro v9 w9 hown9 hg9 _; obtain ⟨A9, c9, rfl⟩ := own_form hown9; have hK9 : KW w next (some ⟨g, 0, none⟩) n c (.slice A9 (nk + 1 + (0)) c9) ((x.kids.take nk ++ [id]) ++ x.kids.drop nk) w9 := HK8.out.app2 hg9 hown9 HTL8.out (by have := HDL.out; omega); rw [HIN.out, HNN.out] at hK9; have HK9 := Lib.hid hK9; rw [HNN.out]; clear hK9 hown9 hg9))
        go_meet
        exact ⟨A9, c9, rfl, HK9⟩
      · go_wp2_with (at_builtin; (with_reducible show wpList _ _ _ (⟨some 60, _, _, _, _, _⟩ :: _) _ _); go_must (refine wpList_app _ rfl (.tmp 51) (.tmp 59) _ rfl w.heap.size 3 i0 _ 1 8 Try.underlying41 hi0 hz0 hz1 hz2 rfl (by omega) (.slice A8 (a + 1) c8) (a + 1) (intCells (x.kids.take a ++ [id])) rfl HO8.out 0 w.heap.size (some ⟨g', a, none⟩) (nk - a) (ck - a) (intCells (x.kids.drop a)) rfl (HRD.out _ HK8.out.m.bel) (intCells_one _) (by unfold maxLen; omega) (by omega) HK8.out.m.bel.size ?_); go_must (intro v9 w9 hown9 hg9 _; obtain ⟨A9, c9, rfl⟩ := own_form hown9; have hK9 : KW w next (some ⟨g, 0, none⟩) n c (.slice A9 (a + 1 + (nk - a)) c9) ((x.kids.take a ++ [id]) ++ x.kids.drop a) w9 := HK8.out.app2 hg9 hown9 HTL8.out (by have := HDL.out; omega); rw [HIN.out, HNN.out] at hK9; have HK9 := Lib.hid hK9; rw [HNN.out]; clear hK9 hown9 hg9))
        go_meet
        exact ⟨A9, c9, rfl, HK9⟩
  case rest =>
    rename World => w9
    obtain ⟨A9, c9, rfl, HK9⟩ := hcut
    have hil : (insAt x.kids a id).length = nk + 1 := by have := HKN.out; simp only [insAt, List.length_append, List.length_take, List.length_cons, List.length_drop]; omega
    have hr9 : RB w B next g n c l w9 := ⟨HK9.out.m.a, grown_below (World.grownBy.refl w _) HK9.out.m.bel, HH.out.after HK9.out.m.bel⟩
    have hown9 : w9.ownsRow B 3 1 (.slice A9 (nk + 1) c9) (nk + 1) (intCells (insAt x.kids a id)) := by
      have := own_mono HK9.out.own hBg
      rwa [hil] at this
    have hlf9 := hr9.own.leaf _ (List.mem_of_getElem? HX1.out)
    have HR10 := Lib.hid (hr9.store (q := ({ x with kids := insAt x.kids a id }, ⟨⟨Ap, np, cp⟩, ⟨A9, nk + 1, c9⟩, ⟨Ar, nr, cr⟩⟩)) (u := .slice A9 (nk + 1) c9) HLN.out HX1.out (j := 5) (by omega) rfl ⟨hlf9.pn, hil.symm, hlf9.rn, hlf9.p, hown9, hlf9.r, ⟨hlf9.sz.con, hlf9.sz.role, hlf9.sz.props, hlf9.sz.refs⟩⟩)
    have m90 := (HK9.out.m.a.cell 0).trans (show _ = some (.int .i64 next) from rfl)
    have m91 := (HK9.out.m.a.cell 1).trans (show _ = some (.slice (some ⟨g, 0, none⟩) n c) from rfl)
    have k95 := hr9.cellAt HLN.out HX1.out (j := 5) (by omega) rfl
    have f95 := hr9.frozenAt (j := jj * 7 + 5) HLN.out
    simp only at k95
    obtain ⟨nd, L⟩ := p
    have hii : ii < n := by rw [← HLN.out]; exact (List.getElem?_eq_some_iff.1 HPP.out).1
    have HLNd : Hid ((l.set jj ({ x with kids := insAt x.kids a id }, ⟨⟨Ap, np, cp⟩, ⟨A9, nk + 1, c9⟩, ⟨Ar, nr, cr⟩⟩)).length = n) := Lib.hid (by rw [List.length_set]; exact HLN.out)
    have HPPd : Hid ((l.set jj ({ x with kids := insAt x.kids a id }, ⟨⟨Ap, np, cp⟩, ⟨A9, nk + 1, c9⟩, ⟨Ar, nr, cr⟩⟩))[ii]? = some (nd, L)) := Lib.hid (by rw [List.getElem?_set_ne HX3.out]; exact HPP.out)
    have HRI1 : Hid (Rise ((l.set jj ({ x with kids := insAt x.kids a id }, ⟨⟨Ap, np, cp⟩, ⟨A9, nk + 1, c9⟩, ⟨Ar, nr, cr⟩⟩)).map (·.1))) := Lib.hid (by rw [List.map_set]; exact rise_set HRI.out (nd := x) (by rw [List.getElem?_map, HX1.out]; rfl) rfl)
    have HAtd : Hid (∀ X, RB w B next g n c (l.set jj ({ x with kids := insAt x.kids a id }, ⟨⟨Ap, np, cp⟩, ⟨A9, nk + 1, c9⟩, ⟨Ar, nr, cr⟩⟩)) X → Calls Try.prog 26 #[.agg #[.int .i64 next, .slice (some ⟨g, 0, none⟩) n c], .int .i64 id] X (Ret X (.int .i64 ii))) := Lib.hid fun X hX => hX.at_ HLNd.out hn4 HRI1.out HPPd.out HIDp.out
    have HSof : Hid (∀ l' X, RB w B next g n c l' X → X.cell? ⟨w.heap.size, 0, none⟩ = some (.int .i64 next) ∧ X.cell? ⟨w.heap.size, 1, none⟩ = some (.slice (some ⟨g, 0, none⟩) n c)) := Lib.hid fun l' X hX => ⟨(hX.m.cell 0).trans rfl, (hX.m.cell 1).trans rfl⟩
    clear hil hr9 hown9 hlf9
    go_upto_region 11 with (fail)
    have Hd := Lib.hid (HR10.out.after (below_drew (Below.refl _ _)))
    refine wp_region_held_tail 6 (fun X => X.cell? ⟨w.heap.size, 0, none⟩ = some (.int .i64 next) ∧ X.cell? ⟨w.heap.size, 1, none⟩ = some (.slice (some ⟨g, 0, none⟩) n c)) (by kernel_rfl) (by kernel_rfl) ?hSd (fun hHeld => ?qd0)
    case hSd => exact HSof.out _ _ Hd.out
    case qd0 =>
      simp only [List.take_succ_cons, List.take_zero, List.drop_succ_cons, List.drop_zero]
      refine wpAnyH_take (i := 0) (v := (.pointer (some ⟨w.heap.size, 1, none⟩))) rfl (by kernel_rfl) (by kernel_rfl) (by kernel_rfl) (fun _ _ _ h => h) (Or.inl ⟨by rfl, ?yd_1⟩) (by assumption) ?qd_1
      case yd_1 => (intro w hSw; (try dsimp only at hSw); go_simp)
      case qd_1 =>
        (try simp only [Act.put]); (try simp only [List.setIfInBounds_toArray])
        refine wpAnyH_take (i := 1) (v := (.slice (some ⟨g, 0, none⟩) n c)) rfl (by kernel_rfl) (by kernel_rfl) (by kernel_rfl) (fun _ _ _ h => h) (Or.inl ⟨by rfl, ?yd_2⟩) (by assumption) ?qd_2
        case yd_2 => (intro w hSw; (try dsimp only at hSw); go_simp)
        case qd_2 =>
          (try simp only [Act.put]); (try simp only [List.setIfInBounds_toArray])
          refine wpAnyH_take (i := 2) (v := (.agg #[.int .i64 next, .slice (some ⟨g, 0, none⟩) n c])) rfl (by kernel_rfl) (by kernel_rfl) (by kernel_rfl) (fun _ _ _ h => h) (Or.inl ⟨by rfl, ?yd_3⟩) (by assumption) ?qd_3
          case yd_3 => (intro w hSw; (try dsimp only at hSw); go_simp)
          case qd_3 =>
            (try simp only [Act.put]); (try simp only [List.setIfInBounds_toArray])
            refine wpAnyH_take (i := 3) (v := (.int .i64 id)) rfl (by kernel_rfl) (by kernel_rfl) (by kernel_rfl) (fun _ _ _ h => h) (Or.inl ⟨by rfl, ?yd_4⟩) (by assumption) ?qd_4
            case yd_4 => (intro w hSw; (try dsimp only at hSw); go_simp)
            case qd_4 =>
              (try simp only [Act.put]); (try simp only [List.setIfInBounds_toArray])
              refine wpAnyH_take (i := 5) (v := (.int .i64 parent)) rfl (by kernel_rfl) (by kernel_rfl) (by kernel_rfl) (fun _ _ _ h => h) (Or.inl ⟨by rfl, ?yd_5⟩) (by assumption) ?qd_5
              case yd_5 => (intro w hSw; (try dsimp only at hSw); go_simp)
              case qd_5 =>
                (try simp only [Act.put]); (try simp only [List.setIfInBounds_toArray])
                refine wpAnyH_ready (rs := [4]) (by kernel_rfl) (by simp) ?_
                refine AllReadyH.cons rfl (fun K hK => ?sd_6) ?md_6
                case sd_6 =>
                  (refine step_call _ (by rfl) 26 #[.agg #[.int .i64 next, .slice (some ⟨g, 0, none⟩) n c], .int .i64 id] (by go_simp) (HAtd.out _ Hd.out) ?_; rintro e Yd ⟨rfl, hbd⟩; refine ⟨_, rfl, ?_⟩; replace Hd := Lib.hid (Hd.out.after hbd); clear hbd)
                  refine hK.out _ _ ?kd_6 (fun hHeld => ?qd_6)
                  case kd_6 => ((try dsimp only); exact HSof.out _ _ Hd.out)
                  case qd_6 =>
                    clear hK K
                    (try simp only [Act.put]); (try simp only [List.setIfInBounds_toArray])
                    refine wpAnyH_done (by kernel_rfl) ?_ _
                    have cd := Hd.out.cellAt HLNd.out HPPd.out (j := 2) (by omega) rfl
                    have fd := Hd.out.frozenAt (j := ii * 7 + 2) HLNd.out
                    show wpList _ _ _ _ _ _
                    have HR11 := Lib.hid (Hd.out.store (q := ({ nd with par := parent }, L)) (u := .int .i64 parent) HLNd.out HPPd.out (j := 2) (by omega) rfl ((Hd.out.own.leaf _ (List.mem_of_getElem? HPPd.out)).turn (Hd.out.own.leaf _ (List.mem_of_getElem? HPPd.out)).sz.role))
                    have HLNe : Hid (((l.set jj ({ x with kids := insAt x.kids a id }, ⟨⟨Ap, np, cp⟩, ⟨A9, nk + 1, c9⟩, ⟨Ar, nr, cr⟩⟩)).set ii ({ nd with par := parent }, L)).length = n) := Lib.hid (by rw [List.length_set]; exact HLNd.out)
                    have HPPe : Hid (((l.set jj ({ x with kids := insAt x.kids a id }, ⟨⟨Ap, np, cp⟩, ⟨A9, nk + 1, c9⟩, ⟨Ar, nr, cr⟩⟩)).set ii ({ nd with par := parent }, L))[ii]? = some ({ nd with par := parent }, L)) := Lib.hid (by rw [List.getElem?_set_self (by have := HLNd.out; omega)])
                    have HAte : Hid (∀ X, RB w B next g n c ((l.set jj ({ x with kids := insAt x.kids a id }, ⟨⟨Ap, np, cp⟩, ⟨A9, nk + 1, c9⟩, ⟨Ar, nr, cr⟩⟩)).set ii ({ nd with par := parent }, L)) X → Calls Try.prog 26 #[.agg #[.int .i64 next, .slice (some ⟨g, 0, none⟩) n c], .int .i64 id] X (Ret X (.int .i64 ii))) := Lib.hid fun X hX => hX.at_ HLNe.out hn4 (by rw [List.map_set]; exact rise_set HRI1.out (nd := nd) (by rw [List.getElem?_map, HPPd.out]; rfl) rfl) (p := ({ nd with par := parent }, L)) HPPe.out HIDp.out
                    go_upto_region 12 with (fail)
                    have He := Lib.hid (HR11.out.after (below_drew (Below.refl _ _)))
                    refine wp_region_held_tail 6 (fun X => X.cell? ⟨w.heap.size, 0, none⟩ = some (.int .i64 next) ∧ X.cell? ⟨w.heap.size, 1, none⟩ = some (.slice (some ⟨g, 0, none⟩) n c)) (by kernel_rfl) (by kernel_rfl) ?hSe (fun hHeld => ?qe0)
                    case hSe => exact HSof.out _ _ He.out
                    case qe0 =>
                      simp only [List.take_succ_cons, List.take_zero, List.drop_succ_cons, List.drop_zero]
                      refine wpAnyH_take (i := 0) (v := (.pointer (some ⟨w.heap.size, 1, none⟩))) rfl (by kernel_rfl) (by kernel_rfl) (by kernel_rfl) (fun _ _ _ h => h) (Or.inl ⟨by rfl, ?ye_1⟩) (by assumption) ?qe_1
                      case ye_1 => (intro w hSw; (try dsimp only at hSw); go_simp)
                      case qe_1 =>
                        (try simp only [Act.put]); (try simp only [List.setIfInBounds_toArray])
                        refine wpAnyH_take (i := 1) (v := (.slice (some ⟨g, 0, none⟩) n c)) rfl (by kernel_rfl) (by kernel_rfl) (by kernel_rfl) (fun _ _ _ h => h) (Or.inl ⟨by rfl, ?ye_2⟩) (by assumption) ?qe_2
                        case ye_2 => (intro w hSw; (try dsimp only at hSw); go_simp)
                        case qe_2 =>
                          (try simp only [Act.put]); (try simp only [List.setIfInBounds_toArray])
                          refine wpAnyH_take (i := 2) (v := (.agg #[.int .i64 next, .slice (some ⟨g, 0, none⟩) n c])) rfl (by kernel_rfl) (by kernel_rfl) (by kernel_rfl) (fun _ _ _ h => h) (Or.inl ⟨by rfl, ?ye_3⟩) (by assumption) ?qe_3
                          case ye_3 => (intro w hSw; (try dsimp only at hSw); go_simp)
                          case qe_3 =>
                            (try simp only [Act.put]); (try simp only [List.setIfInBounds_toArray])
                            refine wpAnyH_take (i := 3) (v := (.int .i64 id)) rfl (by kernel_rfl) (by kernel_rfl) (by kernel_rfl) (fun _ _ _ h => h) (Or.inl ⟨by rfl, ?ye_4⟩) (by assumption) ?qe_4
                            case ye_4 => (intro w hSw; (try dsimp only at hSw); go_simp)
                            case qe_4 =>
                              (try simp only [Act.put]); (try simp only [List.setIfInBounds_toArray])
                              refine wpAnyH_take (i := 5) (v := (.string role)) rfl (by kernel_rfl) (by kernel_rfl) (by kernel_rfl) (fun _ _ _ h => h) (Or.inl ⟨by rfl, ?ye_5⟩) (by assumption) ?qe_5
                              case ye_5 => (intro w hSw; (try dsimp only at hSw); go_simp)
                              case qe_5 =>
                                (try simp only [Act.put]); (try simp only [List.setIfInBounds_toArray])
                                refine wpAnyH_ready (rs := [4]) (by kernel_rfl) (by simp) ?_
                                refine AllReadyH.cons rfl (fun K hK => ?se_6) ?me_6
                                case se_6 =>
                                  (refine step_call _ (by rfl) 26 #[.agg #[.int .i64 next, .slice (some ⟨g, 0, none⟩) n c], .int .i64 id] (by go_simp) (HAte.out _ He.out) ?_; rintro e Ye ⟨rfl, hbe⟩; refine ⟨_, rfl, ?_⟩; replace He := Lib.hid (He.out.after hbe); clear hbe)
                                  refine hK.out _ _ ?ke_6 (fun hHeld => ?qe_6)
                                  case ke_6 => ((try dsimp only); exact HSof.out _ _ He.out)
                                  case qe_6 =>
                                    clear hK K
                                    (try simp only [Act.put]); (try simp only [List.setIfInBounds_toArray])
                                    refine wpAnyH_done (by kernel_rfl) ?_ _
                                    have ce := He.out.cellAt HLNe.out HPPe.out (j := 3) (by omega) rfl
                                    have fe := He.out.frozenAt (j := ii * 7 + 3) HLNe.out
                                    show wpList _ _ _ _ _ _
                                    have HR12 := Lib.hid (He.out.store (q := ({ nd with par := parent, role := role }, L)) (u := .string role) HLNe.out HPPe.out (j := 3) (by omega) rfl ((He.out.own.leaf _ (List.mem_of_getElem? HPPe.out)).turn HRS.out))
                                    go_wp2_with fail
                                    (try rw [Exit.noGoto_ret])
                                    (try simp only [Exit.inBlock, Exit.then])
                                    first | refine bodyPost_ret (results_none (by kernel_rfl) _ _ _) rfl ?_ | refine bodyPost_end (results_none (by kernel_rfl) _ _ _) rfl ?_
                                    exact ⟨rfl, _, HR12.out.own, HR12.out.gr, by rw [HPOST.out, List.set_set, List.map_set, List.map_set, List.set_comm _ _ (Ne.symm HX3.out)]⟩
                                case me_6 =>
                                  exact AllReadyH.nil
                case md_6 =>
                  exact AllReadyH.nil
end Go.Proofs.Ytfljndlmafcjeaa
namespace Go.Proofs.Ytfljndlmafcjeaa
open Go Go.RowKit
set_option linter.unusedVariables false
theorem before_congr {f f' : Int → Bool} {at_ : Int} {all : List Int} (h : ∀ k ∈ all, f k = f' k) : beforeV f at_ all = beforeV f' at_ all := by
  unfold beforeV
  rw [List.filter_congr h]
theorem idxV_le (l : List Int) (x : Int) : -1 ≤ idxV l x ∧ idxV l x < l.length := by
  unfold idxV
  split
  · rename_i i hi
    have := (List.findIdx?_eq_some_iff_getElem.1 hi).1
    omega
  · omega
theorem idxV_mem {l : List Int} {x : Int} (h : x ∈ l) : 0 ≤ idxV l x := by
  have := idxV_ge l x
  rw [List.contains_iff_mem.2 h] at this
  exact of_decide_eq_true this
/-- the place is -1, or one of the list, or its end -/
theorem before_range (f : Int → Bool) (at_ : Int) (all : List Int) : beforeV f at_ all = -1 ∨ ∃ a : Nat, beforeV f at_ all = a ∧ a ≤ all.length := by
  unfold beforeV
  split
  · exact .inl rfl
  · refine .inr ?_
    split
    · rename_i k hk
      have hm := (List.mem_filter.1 (List.mem_of_getElem? hk)).1
      have h1 := idxV_mem hm
      have h2 := idxV_le all k
      exact ⟨(idxV all k).toNat, by omega, by omega⟩
    · split
      · rename_i k hk
        have hm := (List.mem_filter.1 (List.mem_of_getLast? hk)).1
        have h1 := idxV_mem hm
        have h2 := idxV_le all k
        exact ⟨(idxV all k + 1).toNat, by omega, by omega⟩
      · exact ⟨all.length, rfl, Nat.le_refl _⟩
end Go.Proofs.Ytfljndlmafcjeaa
namespace Go.Proofs.Ytfljndlmafcjeaa
open Go Go.RowKit Go.Sort
set_option linter.unusedVariables false
attribute [local go_sem ↓] Go.wp_at_zero Go.wp_at_succ
/-- the program's search for a place, of a root too -/
def amV (nds : List Nd) (parent : Int) (role : ByteArray) (at_ : Int) : Int × Bool :=
  if parent = 0 then (0, role.toList.isEmpty && at_ == 0) else match ndOf nds parent with
    | some nd => amongF (inRoleB nds role) at_ 0 nd.kids.length 0 nd.kids
    | none => (0, false)
/-- the index and the error of a branch of L levels and M nodes more at a spot -/
def admV (next : Int) (nds : List Nd) (parent : Int) (role : ByteArray) (at_ : Int) (L M : Nat) : Int × Int :=
  if parent ≠ 0 ∧ (ndOf nds parent).isNone = true then (0, 20)
  else if (amV nds parent role at_).2 = false then (0, 22)
  else if 64 < depthV nds parent + L then (0, 23)
  else if 4096 < nds.length + M then (0, 4)
  else if 1048576 < next - 1 + M then (0, 4)
  else ((amV nds parent role at_).1, 0)
theorem has_ndOf {nds : List Nd} {id : Int} : (ixOf nds id).isSome = (ndOf nds id).isSome := by
  unfold ndOf
  cases h : ixOf nds id with
  | none => rfl
  | some i =>
    obtain ⟨nd, h1, _⟩ := ixOf_some h
    show true = (nds[i]?).isSome
    rw [h1]; rfl
end Go.Proofs.Ytfljndlmafcjeaa

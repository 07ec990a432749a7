/-
  WALKS: how much the law goes through (topiarylaw03.great).
  WALKS: the document's: a model in memory of its own.
-/
import Derived.Test.YtdeoblhdojbbbaaDoorZ31
import Derived.Deep.QuietTactic
import Derived.BigQuiet
namespace Go.Proofs.YtdeoblhdojbbbaaDoor
open Go Go.RowKit
set_option linter.unusedVariables false
def gw (nd : Nd) : Nat := 1 + min 1000 (nd.props.length + nd.refs.length + nd.kids.length / 8)
def sumG (l : List Nd) : Nat := (l.map gw).sum
theorem sumG_snoc {l : List Nd} {k : Nat} {nd : Nd} (h : l[k]? = some nd) : sumG (l.take (k + 1)) = sumG (l.take k) + gw nd := by
  unfold sumG
  rw [List.take_add_one, h]
  simp
theorem sumG_len : ∀ l : List Nd, l.length ≤ sumG l
  | [] => Nat.zero_le _
  | x :: l => by
    have := sumG_len l
    unfold sumG at this ⊢
    rw [List.map_cons, List.sum_cons, List.length_cons]
    unfold gw at this ⊢
    omega
theorem sumG_le : ∀ l : List Nd, sumG l ≤ 1001 * l.length
  | [] => Nat.zero_le _
  | x :: l => by
    have := sumG_le l
    unfold sumG at this ⊢
    rw [List.map_cons, List.sum_cons, List.length_cons]
    have h : gw x ≤ 1001 := by unfold gw; omega
    omega
theorem sumG_mem : ∀ (l : List Nd) (x : Nd), x ∈ l → gw x ≤ sumG l
  | y :: l, x, h => by
    unfold sumG
    rw [List.map_cons, List.sum_cons]
    rcases List.mem_cons.1 h with rfl | h
    · omega
    · have := sumG_mem l x h
      unfold sumG at this
      omega
/-- no more than the law goes through -/
def Little (nds : List Nd) : Prop := nds.length ≤ 600 ∧ ∀ nd ∈ nds, nd.props.length + nd.refs.length + nd.kids.length / 8 ≤ 600
theorem little_of {nds : List Nd} {k : Nat} (hk : k = nds.length ∨ k = 1000) (hkl : k ≤ nds.length) (h : sumG (nds.take k) ≤ 600) : Little nds := by
  have h1 := sumG_len (nds.take k)
  rw [List.length_take] at h1
  have e : k = nds.length := by omega
  have h2 : nds.length ≤ 600 := by omega
  subst e
  rw [List.take_length] at h
  refine ⟨h2, fun nd hnd => ?_⟩
  have := sumG_mem nds nd hnd
  unfold gw at this
  omega
def greatB (nds : List Nd) : Bool := decide (600 < ((sumG (nds.take 1000) : Nat) : Int))
theorem great_take {nds : List Nd} {k : Nat} (hk : k = nds.length ∨ k = 1000) (h1 : k ≤ nds.length) (h2 : k ≤ 1000) : nds.take k = nds.take 1000 := by
  rcases hk with rfl | rfl
  · rw [List.take_length, List.take_of_length_le h2]
  · rfl
theorem little_is {nds : List Nd} (h : greatB nds = false) : Little nds := by
  have h1 : sumG (nds.take 1000) ≤ 600 := by
    have := of_decide_eq_false h
    omega
  rcases Nat.le_total nds.length 1000 with h2 | h2
  · rw [List.take_of_length_le h2, ← List.take_length (l := nds)] at h1
    exact little_of (.inl rfl) (Nat.le_refl _) h1
  · exact little_of (.inr rfl) h2 h1
def GreatP (w : World) (nds : List Nd) (e : Ending) (w' : World) : Prop := e = .returned (.bool (greatB nds)) ∧ Below w.heap.size w w'
set_option maxRecDepth 20000 in
set_option maxHeartbeats 3200000 in
theorem great3_any (w : World) (hi : Nat) (next : Int) (A : Option Addr) (n c : Nat) (nds : List Nd) (h : NodesIn w 0 hi A n c nds) (hh : hi ≤ w.heap.size) (hw : ∀ nd ∈ nds, nd.props.length ≤ 140737488355328 ∧ nd.refs.length ≤ 140737488355328 ∧ nd.kids.length ≤ 140737488355328) :
    Calls Tryd.prog 4 #[.agg #[.int .i64 next, .slice A n c]] w (GreatP w nds) := by
  have HH := Lib.hid h
  have HW := Lib.hid hw
  have HM0 : Hid (Blk (w.alloc (.cells #[.int .i64 next, .slice A n c] 24)) w.heap.size 24 #[.int .i64 next, .slice A n c]) := Lib.hid (Blk.new _ _ _)
  have HB0 : Hid (Below w.heap.size w (w.alloc (.cells #[.int .i64 next, .slice A n c] 24))) := Lib.hid ((Below.refl _ _).alloc (Nat.le_refl _) _)
  have hl := h.1
  have hc := h.2.2.1
  have hnc := h.2.1
  unfold maxLen at hc
  clear h hw
  go_enter Tryd.func4, Tryd.ntmps4
  go_wp2_with fail
  go_loopw [3, 4] (fun s i wr => ∃ k : Nat, k ≤ n ∧ k ≤ 1000 ∧ s = .int .i64 ((sumG (nds.take k) : Nat) : Int) ∧ i = .int .i64 (k : Int) ∧ Hid (Blk wr w.heap.size 24 #[.int .i64 next, .slice A n c]) ∧ Hid (Below w.heap.size w wr)) (fun _ i _ => 1000 - (intOf i).toNat)
  case atStart => exact ⟨0, Nat.zero_le _, Nat.zero_le _, rfl, rfl, HM0, HB0⟩
  case round =>
    rename World => wr
    obtain ⟨k, hk, hk2, rfl, rfl, HM, HB⟩ := hrel
    have a1 := (HM.out.cell 1).trans (show _ = some (.slice A n c) from rfl)
    have hS := sumG_le (nds.take k)
    rw [List.length_take] at hS
    have HSS : Hid ((k = n ∨ k = 1000) → decide (600 < ((sumG (nds.take k) : Nat) : Int)) = greatB nds) := Lib.hid fun hkk => by
      unfold greatB
      rw [great_take (k := k) (by rw [hl]; exact hkk) (by rw [hl]; exact hk) hk2]
    by_cases hkn : k < n
    · by_cases hk3 : k < 1000
      · obtain ⟨bb, oo, nd, ⟨⟨Ap, np, cp⟩, ⟨Ak, nk, ck⟩, ⟨Ar, nr, cr⟩⟩, rfl, _, hbb, hnd, hat, hlf⟩ := HH.out.at_ hkn
        have HSN := Lib.hid (sumG_snoc hnd)
        have hwn := HW.out nd (List.mem_of_getElem? hnd)
        have hnp : np = nd.props.length := hlf.pn
        have hnk : nk = nd.kids.length := hlf.kn
        have hnr : nr = nd.refs.length := hlf.rn
        have hg : gw nd = 1 + min 1000 (np + nr + nk / 8) := by unfold gw; rw [hnp, hnk, hnr]
        rw [← hnp, ← hnk, ← hnr] at hwn
        have hatw := hat.below (HB.out.mono hh) hbb
        have q4 := hatw.c4
        have q5 := hatw.c5
        have q6 := hatw.c6
        simp only at q4 q5 q6
        generalize sumG (nds.take k) = S at HSN hS HSS ⊢
        clear hat hatw hlf hnd HSS
        go_upto_region 5 with (fail)
        have i1 : IntKind.i64.wrap ((S : Int) + 1) = (S : Int) + 1 := IntWalk.i64_in _ (by omega)
        have i2 : IntKind.i64.wrap ((np : Int) + nr) = (np : Int) + nr := IntWalk.i64_in _ (by omega)
        go_quiet (fail)
        go_wp2_with fail
        go_roundw
        case rel => exact ⟨k + 1, by omega, by omega, by rw [HSN.out, hg, hnp, hnk, hnr]; go_num, by go_num, Lib.hid (HM.out.drewN _), Lib.hid (below_drewN HB.out _)⟩
        case measure => simp [intOf]; omega
      · have hkn2 : (k : Int) < (n : Int) := by omega
        have hk4 : ¬ (k : Int) < 1000 := by omega
        have HSB := Lib.hid (HSS.out (.inr (by omega)))
        go_wp2_with fail
        go_ret
        exact ⟨by rw [← HSB.out]; rfl, HB.out⟩
    · have hkn2 : ¬ (k : Int) < (n : Int) := by omega
      have HSB := Lib.hid (HSS.out (.inl (by omega)))
      go_wp2_with fail
      go_ret
      exact ⟨by rw [← HSB.out]; rfl, HB.out⟩
end Go.Proofs.YtdeoblhdojbbbaaDoor
namespace Go.Proofs.YtdeoblhdojbbbaaDoor
open Go Go.RowKit Go.Sort
set_option linter.unusedVariables false
attribute [local go_sem ↓] Go.wp_at_zero Go.wp_at_succ
/-- what holds while a model is made, but for the list that grows -/
structure TE (w : World) (next : Int) (A : Option Addr) (n c : Nat) (ov : Value) (wr : World) : Prop where
  md : Blk wr w.heap.size 24 #[.int .i64 next, .slice A n c]
  rs : Blk wr (w.heap.size + 1) 24 #[.int .i64 0, .slice none 0 0]
  out : Blk wr (w.heap.size + 2) 24 #[.int .i64 next, ov]
  bel : Below w.heap.size w wr
structure TW (w : World) (next : Int) (A : Option Addr) (n c : Nat) (ov : Value) (l : List (Nd × Leaf)) (wr : World) : Prop where
  e : TE w next A n c ov wr
  own : OwnM wr w.heap.size ov l
section
variable {w : World} {next : Int} {A : Option Addr} {n c : Nat} {ov : Value} {l : List (Nd × Leaf)} {X X' : World}
theorem TE.after (h : TE w next A n c ov X) (hb : Below X.heap.size X X') : TE w next A n c ov X' := ⟨h.md.after hb, h.rs.after hb, h.out.after hb, h.bel.trans (hb.mono h.bel.size)⟩
theorem TW.after (h : TW w next A n c ov l X) (hb : Below X.heap.size X X') : TW w next A n c ov l X' := ⟨h.e.after hb, h.own.after hb⟩
theorem TE.kept (h : TE w next A n c ov X) (hown : OwnN X w.heap.size ov l) (hg : X.grownBy X' ov.ownBlock) : TE w next A n c ov X' :=
  ⟨h.md.grown hg (Ne.symm (own_blk_ne hown h.md (by decide))), h.rs.grown hg (Ne.symm (own_blk_ne hown h.rs (by decide))), h.out.grown hg (Ne.symm (own_blk_ne hown h.out (by decide))), below_grows h.bel hg hown (Nat.le_refl _)⟩
theorem TE.out_set (h : TE w next A n c ov X) (u : Value) : TE w next A n c u (X.setCell ⟨w.heap.size + 2, 1, none⟩ u) :=
  ⟨h.md.far (by simp) u, h.rs.far (by simp) u, by simpa using h.out.set_ 1 u, h.bel.setCell (p := ⟨w.heap.size + 2, 1, none⟩) (by simp) u⟩
theorem TW.push {p : Nd × Leaf} {v' : Value} (h : TW w next A n c ov l X) (hg : X.grownBy X' ov.ownBlock) (hown : X'.ownsRow w.heap.size 37 7 v' (l.length + 1) (allCells l ++ ndCells p))
    (hp : OwnLeaf X w.heap.size p.1 p.2) : TW w next A n c v' (l ++ [p]) (X'.setCell ⟨w.heap.size + 2, 1, none⟩ v') := by
  have h1 := h.e.kept h.own.own hg
  have h2 := hp.kept h.own.own hg
  have hm : OwnM X' w.heap.size v' (l ++ [p]) := by
    refine ⟨?_, fun q hq => ?_⟩
    · unfold OwnN
      have e : allCells (l ++ [p]) = allCells l ++ ndCells p := by simp [allCells]
      rw [e, List.length_append, List.length_singleton]
      exact hown
    · rcases List.mem_append.1 hq with hq | hq
      · exact (h.own.leaf q hq).kept h.own.own hg
      · obtain rfl : q = p := by simpa using hq
        exact h2
  exact ⟨h1.out_set v', hm.other h1.out 1 v'⟩
theorem tw_start (w : World) (next : Int) (A : Option Addr) (n c : Nat) : TW w next A n c (.slice none 0 0) []
    (((w.alloc (.cells #[.int .i64 next, .slice A n c] 24)).alloc (.cells #[.int .i64 0, .slice none 0 0] 24)).alloc (.cells #[.int .i64 next, .slice none 0 0] 24)) := by
  refine ⟨⟨?_, ?_, ?_, ?_⟩, ⟨?_, by simp⟩⟩
  · exact ((Blk.new w _ _).alloc _).alloc _
  · exact (Blk.new' (by simp)).alloc _
  · exact Blk.new' (by simp)
  · exact below_more (below_more (below_more (Below.refl _ _) _) _) _
  · exact ⟨rfl, .inl ⟨rfl, rfl⟩⟩
end
set_option maxRecDepth 100000 in
set_option maxHeartbeats 6400000 in
theorem twin_any (w : World) (hi : Nat) (next : Int) (A : Option Addr) (n c : Nat) (nds : List Nd) (h : NodesIn w 0 hi A n c nds) (hh : hi ≤ w.heap.size) (hn : n ≤ 4096) (hf : ∀ nd ∈ nds, Fits 1 nd) :
    Calls Tryd.prog 5 #[.agg #[.int .i64 next, .slice A n c]] w fun e w' => ∃ ov l, e = .returned (.agg #[.int .i64 next, ov]) ∧ OwnM w' w.heap.size ov l ∧ l.map (·.1) = nds ∧ Below w.heap.size w w' := by
  have hc := h.2.2.1
  have hnc := h.2.1
  have HL := Lib.hid h.1
  unfold maxLen at hc
  go_enter Tryd.func5, Tryd.ntmps5
  go_wp2_with fail
  go_loopg [4] n (fun gk i wr => ∃ (k : Nat) (ov : Value) (l : List (Nd × Leaf)), k ≤ n ∧ Hid (gk = n - k) ∧ i = .int .i64 k ∧ TW w next A n c ov l wr ∧ Hid (l.map (·.1) = nds.take k))
  case atStart => exact ⟨0, _, [], Nat.zero_le _, Lib.hid rfl, rfl, tw_start w next A n c, Lib.hid rfl⟩
  case round =>
    obtain ⟨k, ov, l, hk, HG, rfl, W, HT⟩ := hrel
    have c1 := W.e.md.cell 1
    have o1 := W.e.out.cell 1
    simp at c1 o1
    have HW := Lib.hid W
    have hbel := W.e.bel
    have hwz := hbel.size
    clear W
    by_cases hlt : k < n
    · obtain ⟨b, o, hA, _, hb, V, hV⟩ := h.all (by omega)
      obtain ⟨nd, hnd⟩ : ∃ nd, nds[k]? = some nd := ⟨nds[k]'(by have := HL.out; omega), List.getElem?_eq_getElem _⟩
      have hat := (hV k nd hnd).1
      have hlf := (hV k nd hnd).2
      have hfi := hf nd (List.mem_of_getElem? hnd)
      generalize V k = Lk at hat hlf
      subst hA
      have HON := Lib.hid fun (X : World) (hbX : Below w.heap.size w X) => refNode_any X hi nd Lk (hlf.below (hbX.mono hh)) (Nat.le_trans hh hbX.size) hfi
      have HND := Lib.hid hnd
      obtain ⟨⟨Ap, np, cp⟩, ⟨Ak, nk, ck⟩, ⟨Ar, nr, cr⟩⟩ := Lk
      have hlk : l.length = k := by have := congrArg List.length HT.out; rw [List.length_map, List.length_take, HL.out] at this; omega
      have HLL := Lib.hid hlk
      have HSof : Hid (∀ X, TE w next (some ⟨b, o, none⟩) n c ov X → Below w.heap.size w X ∧ X.cell? ⟨w.heap.size + 1 + 1, 1, none⟩ = some ov ∧ X.cell? ⟨w.heap.size, 1, none⟩ = some (.slice (some ⟨b, o, none⟩) n c) ∧ X.cell? ⟨b, o + k * 7, none⟩ = some (.int .i64 nd.id) ∧ X.cell? ⟨b, o + k * 7 + 1, none⟩ = some (.string nd.con) ∧ X.cell? ⟨b, o + k * 7 + 2, none⟩ = some (.int .i64 nd.par) ∧ X.cell? ⟨b, o + k * 7 + 3, none⟩ = some (.string nd.role) ∧ X.cell? ⟨b, o + k * 7 + 4, none⟩ = some (.slice Ap np cp) ∧ X.cell? ⟨b, o + k * 7 + 5, none⟩ = some (.slice Ak nk ck) ∧ X.cell? ⟨b, o + k * 7 + 6, none⟩ = some (.slice Ar nr cr)) := Lib.hid fun X hX => by
        have hq := hat.below hX.bel (by omega)
        have h1 := hX.out.cell 1
        have h3 := hX.md.cell 1
        simp at h1 h3
        exact ⟨hX.bel, h1, h3, hq.c0, hq.c1, hq.c2, hq.c3, hq.c4, hq.c5, hq.c6⟩
      obtain ⟨i0, hi0, hz0, hz1, hz2⟩ := info_parts nodeInfo
      have HX := Lib.hid (HW.out.after (below_drew (Below.refl _ _)))
      clear hV hnd hfi hlf hlk hat
      go_upto_region 5 with (fail)
      clear hbel c1 o1
      refine wp_region_held_tail 10 (fun w' => Below w.heap.size w w' ∧ w'.cell? ⟨w.heap.size + 1 + 1, 1, none⟩ = some ov ∧ w'.cell? ⟨w.heap.size, 1, none⟩ = some (.slice (some ⟨b, o, none⟩) n c) ∧ w'.cell? ⟨b, o + k * 7, none⟩ = some (.int .i64 nd.id) ∧ w'.cell? ⟨b, o + k * 7 + 1, none⟩ = some (.string nd.con) ∧ w'.cell? ⟨b, o + k * 7 + 2, none⟩ = some (.int .i64 nd.par) ∧ w'.cell? ⟨b, o + k * 7 + 3, none⟩ = some (.string nd.role) ∧ w'.cell? ⟨b, o + k * 7 + 4, none⟩ = some (.slice Ap np cp) ∧ w'.cell? ⟨b, o + k * 7 + 5, none⟩ = some (.slice Ak nk ck) ∧ w'.cell? ⟨b, o + k * 7 + 6, none⟩ = some (.slice Ar nr cr)) (by kernel_rfl) (by kernel_rfl) ?hSt (fun hHeld => ?qt0)
      case hSt => exact HSof.out _ HX.out.e
      case qt0 =>
        simp only [List.take_succ_cons, List.take_zero, List.drop_succ_cons, List.drop_zero]
        refine wpAnyH_take (i := 0) (v := (.pointer (some ⟨w.heap.size + 1 + 1, 1, none⟩))) rfl (by kernel_rfl) (by kernel_rfl) (by kernel_rfl) (fun _ _ _ h => h) (Or.inl ⟨by rfl, ?yt_1⟩) (by assumption) ?qt_1
        case yt_1 => (intro w hSw; (try dsimp only at hSw); go_simp)
        case qt_1 =>
          (try simp only [Act.put]); (try simp only [List.setIfInBounds_toArray])
          refine wpAnyH_take (i := 1) (v := ov) rfl (by kernel_rfl) (by kernel_rfl) (by kernel_rfl) (fun _ _ _ h => h) (Or.inl ⟨by rfl, ?yt_2⟩) (by assumption) ?qt_2
          case yt_2 => (intro w hSw; (try dsimp only at hSw); go_simp)
          case qt_2 =>
            (try simp only [Act.put]); (try simp only [List.setIfInBounds_toArray])
            refine wpAnyH_take (i := 2) (v := (.pointer (some ⟨w.heap.size, 1, none⟩))) rfl (by kernel_rfl) (by kernel_rfl) (by kernel_rfl) (fun _ _ _ h => h) (Or.inl ⟨by rfl, ?yt_3⟩) (by assumption) ?qt_3
            case yt_3 => (intro w hSw; (try dsimp only at hSw); go_simp)
            case qt_3 =>
              (try simp only [Act.put]); (try simp only [List.setIfInBounds_toArray])
              refine wpAnyH_take (i := 3) (v := (.slice (some ⟨b, o, none⟩) n c)) rfl (by kernel_rfl) (by kernel_rfl) (by kernel_rfl) (fun _ _ _ h => h) (Or.inl ⟨by rfl, ?yt_4⟩) (by assumption) ?qt_4
              case yt_4 => (intro w hSw; (try dsimp only at hSw); go_simp)
              case qt_4 =>
                (try simp only [Act.put]); (try simp only [List.setIfInBounds_toArray])
                refine wpAnyH_take (i := 4) (v := (.int .i64 k)) rfl (by kernel_rfl) (by kernel_rfl) (by kernel_rfl) (fun _ _ _ h => h) (Or.inl ⟨by rfl, ?yt_5⟩) (by assumption) ?qt_5
                case yt_5 => (intro w hSw; (try dsimp only at hSw); go_simp)
                case qt_5 =>
                  (try simp only [Act.put]); (try simp only [List.setIfInBounds_toArray])
                  refine wpAnyH_take (i := 5) (v := (.pointer (some ⟨b, o + k * 7, none⟩))) rfl (by kernel_rfl) (by kernel_rfl) (by kernel_rfl) (fun _ _ _ h => h) (Or.inl ⟨by rfl, ?yt_6⟩) (by assumption) ?qt_6
                  case yt_6 => (intro w hSw; (try dsimp only at hSw); go_simp)
                  case qt_6 =>
                    (try simp only [Act.put]); (try simp only [List.setIfInBounds_toArray])
                    refine wpAnyH_take (i := 6) (v := (.agg #[.int .i64 nd.id, .string nd.con, .int .i64 nd.par, .string nd.role, .slice Ap np cp, .slice Ak nk ck, .slice Ar nr cr])) rfl (by kernel_rfl) (by kernel_rfl) (by kernel_rfl) (fun _ _ _ h => h) (Or.inl ⟨by rfl, ?yt_7⟩) (by assumption) ?qt_7
                    case yt_7 => (intro w hSw; (try dsimp only at hSw); go_simp)
                    case qt_7 =>
                      (try simp only [Act.put]); (try simp only [List.setIfInBounds_toArray])
                      refine wpAnyH_ready (rs := [7]) (by kernel_rfl) (by simp) ?_
                      refine AllReadyH.cons rfl (fun K hK => ?st_8) ?mt_8
                      case st_8 =>
                        (refine step_call _ (by rfl) 9 #[.agg #[.int .i64 nd.id, .string nd.con, .int .i64 nd.par, .string nd.role, .slice Ap np cp, .slice Ak nk ck, .slice Ar nr cr]] (by go_simp) (HON.out _ HX.out.e.bel) ?_; rintro e Y1 ⟨⟨⟨A1, n1, k1⟩, ⟨A2, n2, k2⟩, ⟨A3, n3, k3⟩⟩, rfl, hl1, hb1⟩; refine ⟨_, rfl, ?_⟩; have HLf := Lib.hid (hl1.mono HX.out.e.bel.size); replace HX := Lib.hid (HX.out.after hb1); clear hl1 hb1)
                        refine hK.out _ _ ?kt_8 (fun hHeld => ?qt_8)
                        case kt_8 => ((try dsimp only); first | exact HSof.out _ HX2.out | exact HSof.out _ HXa.out.e | exact HSof.out _ HX.out.e)
                        case qt_8 =>
                          clear hK K
                          (try simp only [Act.put]); (try simp only [List.setIfInBounds_toArray])
                          refine wpAnyH_ready (rs := [8]) (by kernel_rfl) (by simp) ?_
                          refine AllReadyH.cons rfl (fun K hK => ?st_9) ?mt_9
                          case st_9 =>
                            (go_simp; have HXa := Lib.hid (HX.out.after (below_more (Below.refl _ _) (.cells #[.int .i64 nd.id, .string nd.con, .int .i64 nd.par, .string nd.role, .slice A1 n1 k1, .slice A2 n2 k2, .slice A3 n3 k3] 37))); have HLa := Lib.hid (HLf.out.after (below_more (Below.refl _ _) (.cells #[.int .i64 nd.id, .string nd.con, .int .i64 nd.par, .string nd.role, .slice A1 n1 k1, .slice A2 n2 k2, .slice A3 n3 k3] 37))); have HNb := Lib.hid (Blk.new Y1 37 #[.int .i64 nd.id, .string nd.con, .int .i64 nd.par, .string nd.role, .slice A1 n1 k1, .slice A2 n2 k2, .slice A3 n3 k3]); have hgm : Y1.heap.size < (Y1.alloc (.cells #[.int .i64 nd.id, .string nd.con, .int .i64 nd.par, .string nd.role, .slice A1 n1 k1, .slice A2 n2 k2, .slice A3 n3 k3] 37)).heap.size := HNb.out.lt)
                            refine hK.out _ _ ?kt_9 (fun hHeld => ?qt_9)
                            case kt_9 => ((try dsimp only); first | exact HSof.out _ HX2.out | exact HSof.out _ HXa.out.e | exact HSof.out _ HX.out.e)
                            case qt_9 =>
                              clear hK K
                              (try simp only [Act.put]); (try simp only [List.setIfInBounds_toArray])
                              refine wpAnyH_ready (rs := [9]) (by kernel_rfl) (by simp) ?_
                              refine AllReadyH.cons rfl (fun K hK => ?st_10) ?mt_10
                              case st_10 =>
                                (refine step_app_mark _ (by rfl) (.tmp 16) (.tmp 23) _ (by rfl) w.heap.size 37 i0 _ 7 120 Tryd.underlying22 hi0 hz0 hz1 hz2 rfl (by omega) ov l.length (allCells l) (by rfl) HXa.out.own.own _ (ndCells (nd, ⟨⟨A1, n1, k1⟩, ⟨A2, n2, k2⟩, ⟨A3, n3, k3⟩⟩)) (by rfl) HNb.out rfl (by simp [ndCells, Value.oneCell']) (by have := HLL.out; unfold maxLen; omega) (by have := HLL.out; omega) HXa.out.e.bel.size ?_; intro G1 cap1 w2 hown2 _ hca1 hca2 hgr2; have HX2 := Lib.hid (HXa.out.e.kept HXa.out.own.own hgr2))
                                refine hK.out _ _ ?kt_10 (fun hHeld => ?qt_10)
                                case kt_10 => ((try dsimp only); first | exact HSof.out _ HX2.out | exact HSof.out _ HXa.out.e | exact HSof.out _ HX.out.e)
                                case qt_10 =>
                                  clear hK K
                                  (try simp only [Act.put]); (try simp only [List.setIfInBounds_toArray])
                                  refine wpAnyH_done (by kernel_rfl) ?_ _
                                  obtain ⟨hB1, hB2, hB3, _⟩ := hHeld
                                  have o7 := HX2.out.out.cell 1
                                  have f7 := HX2.out.out.frozen 1
                                  simp at o7
                                  have HO2 := Lib.hid hown2
                                  have HG2 := Lib.hid hgr2
                                  clear hown2 hgr2
                                  show wpList _ _ _ _ _ _
                                  go_wp2_with fail
                                  go_roundg (n - (k + 1))
                                  case measure => have := HG.out; omega
                                  case rel =>
                                    refine ⟨k + 1, .slice (some ⟨G1, 0, none⟩) (l.length + 1) cap1, l ++ [(nd, ⟨⟨A1, n1, k1⟩, ⟨A2, n2, k2⟩, ⟨A3, n3, k3⟩⟩)], by omega, Lib.hid rfl, by simp, ?_, Lib.hid ?_⟩
                                    · exact HXa.out.push HG2.out HO2.out HLa.out
                                    · rw [List.map_append, HT.out, List.take_add_one, HND.out]; rfl
                              case mt_10 =>
                                exact AllReadyH.nil
                          case mt_9 =>
                            exact AllReadyH.nil
                      case mt_8 =>
                        exact AllReadyH.nil
    · have hkn : k = n := by omega
      subst hkn
      have hnn : l.map (·.1) = nds := by rw [HT.out, List.take_of_length_le (by rw [HL.out]; omega)]
      have HNN := Lib.hid hnn
      have o0 := HW.out.e.out.cell 0
      have r0 := HW.out.e.rs.cell 0
      have r1 := HW.out.e.rs.cell 1
      have r2 := HW.out.e.rs.frozen 0
      have r3 := HW.out.e.rs.frozen 1
      simp at o0 r0 r1
      obtain ⟨Ao, co, rfl⟩ := own_form HW.out.own.own
      have HM := Lib.hid HW.out.own
      clear h hf hnn
      go_wp2_with fail
      (try rw [Exit.noGoto_ret])
      (try simp only [Exit.inBlock, Exit.then])
      have hres : Tryd.f5.results = #[.cell 2 24] := by kernel_rfl
      refine bodyPost_ret (v := .agg #[.int .i64 next, .slice Ao l.length co]) ?hr rfl ?_
      case hr =>
        simp only [results, hres]
        go_simp
      refine ⟨_, l, rfl, ?_, HNN.out, ?_⟩
      · exact (HM.out.other HW.out.e.rs 0 _).other (HW.out.e.rs.set_ 0 _) 1 _
      · exact (HW.out.e.bel.setCell (p := ⟨w.heap.size + 1, 0, none⟩) (by simp) _).setCell (p := ⟨w.heap.size + 1, 1, none⟩) (by simp) _
end Go.Proofs.YtdeoblhdojbbbaaDoor

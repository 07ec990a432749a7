/-
  WALKS: awake: the chapter's first rows.
  WALKS: what is answered is new memory.
  A MODEL AS AN ARGUMENT: what the reading of it tells of the cells, and how long its lists are.
-/
import Derived.Test.YtohinklkcinjpaaGreatZO26
import Derived.Test.YtohinklkcinjpaaGreatRows
import Derived.Deep.Slices
import Derived.Deep.SlicePairs
import Derived.Deep.Fields
import Derived.ChangeSame
import Derived.ChangeSlices
import Derived.Lib.SmallJoins
import Derived.Carry
namespace Go.Proofs.YtohinklkcinjpaaGreat
open Go Go.RowKit Go.Sort
set_option linter.unusedVariables false
attribute [local go_sem ↓] Go.wp_at_zero Go.wp_at_succ
/-- a box with a model of the call's own -/
structure BM (w : World) (gm : Nat) (next : Int) (nds : List Nd) (A : Option Addr) (n c : Nat) (l : List (Nd × Leaf)) (X : World) : Prop where
  m : Blk X gm 26 #[.int .i64 next, .slice A n c]
  own : OwnM X w.heap.size (.slice A n c) l
  len : l.length = n
  map_ : l.map (·.1) = nds
  bel : Below w.heap.size w X
  le : w.heap.size ≤ gm
section
variable {w X X' : World} {gm : Nat} {next : Int} {nds : List Nd} {A : Option Addr} {n c : Nat} {l : List (Nd × Leaf)}
theorem BM.after (h : BM w gm next nds A n c l X) (hb : Below X.heap.size X X') : BM w gm next nds A n c l X' := ⟨h.m.after hb, h.own.after hb, h.len, h.map_, h.bel.trans (hb.mono h.bel.size), h.le⟩
theorem BM.nodes (h : BM w gm next nds A n c l X) : NodesIn X 0 X.heap.size A n c nds := by
  rw [← h.map_]
  exact (h.own.nodesIn h.len).mono (Nat.zero_le _) (Nat.le_refl _)
theorem BM.set (h : BM w gm next nds A n c l X) {next' : Int} {nds' : List Nd} {A' : Option Addr} {n' c' : Nat} {l' : List (Nd × Leaf)} (ho : OwnM X w.heap.size (.slice A' n' c') l') (hl : l'.length = n') (hm : l'.map (·.1) = nds') :
    BM w gm next' nds' A' n' c' l' ((X.setCell ⟨gm, 0, none⟩ (.int .i64 next')).setCell ⟨gm, 1, none⟩ (.slice A' n' c')) := by
  have hle := h.le
  refine ⟨?_, (ho.other h.m 0 _).other (h.m.set_ 0 _) 1 _, hl, hm, (h.bel.setCell (p := ⟨gm, 0, none⟩) hle _).setCell (p := ⟨gm, 1, none⟩) hle _, hle⟩
  simpa using (h.m.set_ 0 (.int .i64 next')).set_ 1 (.slice A' n' c')
end
theorem aw_added {w w' : World} {next : Int} {nds nds' : List Nd} {parent at_ : Int} {role con : ByteArray} {e : Ending} (h : AddPost w next nds parent role at_ con e w') (h0 : addE next nds parent role at_ con = 0) (hl : addL next nds parent role con (admV next nds parent role at_ 1 1).1.toNat = nds') :
    ∃ (A : Option Addr) (n c : Nat) (l : List (Nd × Leaf)), e = .returned (.tuple #[.agg #[.int .i64 (next + 1), .slice A n c], .int .i64 next, .int .i64 0]) ∧ OwnM w' w.heap.size (.slice A n c) l ∧ l.length = n ∧ l.map (·.1) = nds' ∧ Below w.heap.size w w' := by
  obtain ⟨hb, ⟨h1, he⟩ | ⟨h1, A, c, l, he, ho, hm⟩⟩ := h
  · exact absurd h0 h1
  · refine ⟨A, _, c, l, he, ho, ?_, hm.trans hl, hb⟩
    have h1 := congrArg List.length hm
    rw [List.length_map] at h1
    rw [h1]
    unfold addL
    split <;> simp
theorem aw_fit (k : Nat) (hk : k ≤ 4) : ∀ nd ∈ awS k, Fits 1 nd := fun nd hnd => by
  have := aw_fits k hk nd hnd
  exact ⟨by omega, by omega, by omega⟩
/-- the three lists of awake -/
structure AwL (gs : Nat) (X : World) : Prop where
  c : Blk X gs 9 #[.string ⟨#[78, 117, 109]⟩, .string ⟨#[84, 101, 120, 116]⟩, .string ⟨#[83, 117, 109]⟩, .string ⟨#[78, 117, 109]⟩]
  r : Blk X (gs + 1) 9 #[.string ⟨#[105, 116, 101, 109]⟩, .string ⟨#[110, 111, 116, 101]⟩, .string ⟨#[105, 116, 101, 109]⟩, .string ⟨#[105, 116, 101, 109]⟩]
  p : Blk X (gs + 1 + 1) 3 #[.int .i64 0, .int .i64 0, .int .i64 1, .int .i64 0]
theorem AwL.after {gs : Nat} {X X' : World} (h : AwL gs X) (hb : Below X.heap.size X X') : AwL gs X' := ⟨h.c.after hb, h.r.after hb, h.p.after hb⟩
theorem AwL.far {gs g : Nat} {X : World} {cs : Array Value} (h : AwL gs X) (hg : Blk X g 26 cs) (i : Nat) (u : Value) : AwL gs (X.setCell ⟨g, i, none⟩ u) :=
  ⟨h.c.far (p := ⟨g, i, none⟩) (h.c.ne_ hg (by decide)) u, h.r.far (p := ⟨g, i, none⟩) (h.r.ne_ hg (by decide)) u, h.p.far (p := ⟨g, i, none⟩) (h.p.ne_ hg (by decide)) u⟩
theorem AwL.at_ {gs : Nat} {X : World} (h : AwL gs X) {k : Nat} (hk : k < 4) : X.cell? ⟨gs, k, none⟩ = some (.string (awC k)) ∧ X.cell? ⟨gs + 1, k, none⟩ = some (.string (awR k)) ∧ X.cell? ⟨gs + 1 + 1, k, none⟩ = some (.int .i64 (awP k)) := by
  match k, hk with
  | 0, _ => exact ⟨h.c.cell 0, h.r.cell 0, h.p.cell 0⟩
  | 1, _ => exact ⟨h.c.cell 1, h.r.cell 1, h.p.cell 1⟩
  | 2, _ => exact ⟨h.c.cell 2, h.r.cell 2, h.p.cell 2⟩
  | 3, _ => exact ⟨h.c.cell 3, h.r.cell 3, h.p.cell 3⟩
theorem ints_lit {X : World} {B : Nat} {Ax : Option Addr} {n cx : Nat} {l : List Int} {o : Array Value} (h : X.ownsRow B 3 1 (.slice Ax n cx) n (intCells l)) (hl : l.length = n) (ho : o = (intCells l).toArray) (hn : n ≤ maxLen) :
    Calls Tryz.prog 22 #[.slice Ax n cx, .slice (some ⟨X.heap.size, 0, none⟩) n n] (X.alloc (.cells o 3)) (Ret (X.alloc (.cells o 3)) (.bool true)) := by
  have hb := below_box X (.cells o 3)
  have h1 := own_row (own_after h hb)
  have h2 : IBlk (X.alloc (.cells o 3)) X.heap.size l := by subst ho; exact Blk.new _ _ _
  have := drew_ret (refInts_any _ _ _ 0 (X.alloc (.cells o 3)).heap.size Ax (some ⟨X.heap.size, 0, none⟩) n cx n n l l h1 (h2.row hl (Nat.le_refl _) hn (Nat.zero_le _) (by simp)))
  rwa [eqL_refl intE_refl] at this
theorem aw_sz (k : Nat) : (awC k).size ≤ maxLen ∧ (awR k).size ≤ maxLen := by
  match k with
  | 0 => decide
  | 1 => decide
  | 2 => decide
  | k + 3 => exact ⟨by show sNum.size ≤ maxLen; decide, by show sItem.size ≤ maxLen; decide⟩
set_option maxRecDepth 20000 in
set_option maxHeartbeats 1600000 in
theorem awake_any (w : World) : Calls Tryz.prog 7 #[] w (Ret w (.bool true)) := by
  have HAd1 : Hid (∀ X, Calls Tryz.prog 18 #[.agg #[.int .i64 1, .slice none 0 0], .int .i64 0, .string ⟨#[]⟩, .int .i64 0, .string ⟨#[76, 105, 115, 116]⟩] X fun e w' => ∃ (A : Option Addr) (n c : Nat) (l : List (Nd × Leaf)), e = .returned (.tuple #[.agg #[.int .i64 2, .slice A n c], .int .i64 1, .int .i64 0]) ∧ OwnM w' X.heap.size (.slice A n c) l ∧ l.length = n ∧ l.map (·.1) = awS 0 ∧ Below X.heap.size X w') := Lib.hid fun X => (add_any X 0 1 0 0 ⟨#[]⟩ sList none 0 0 [] (NodesIn.nil _ _ _) (Nat.zero_le _) (by decide) (by decide) (by simp)).mono fun e w' he => aw_added he aw_first.1 aw_first.2
  go_enter Tryz.func7, Tryz.ntmps7
  go_upto_region 2 with (first | (go_at_call 8; (with_reducible refine (new_any _).mono ?_); go_must (rintro e w1 ⟨rfl, hb1⟩; have HB1 := Lib.hid hb1; clear hb1)) | (go_at_call 18; (with_reducible refine (HAd1.out _).mono ?_); go_must (rintro e w2 ⟨A0, n0, c0, l0, rfl, ho2, hl2, hm2, hb2⟩; have HX : Hid (BM w w2.heap.size 2 (awS 0) A0 n0 c0 l0 (w2.alloc (.cells #[.int .i64 2, .slice A0 n0 c0] 26))) := Lib.hid ⟨Blk.new _ _ _, (ho2.mono HB1.out.size).after (below_box _ _), hl2, hm2, (HB1.out.trans (hb2.mono HB1.out.size)).trans ((below_box _ _).mono (Nat.le_trans HB1.out.size hb2.size)), Nat.le_trans HB1.out.size hb2.size⟩; clear ho2 hl2 hm2 hb2 HB1)))
  generalize w2.alloc (.cells #[.int .i64 2, .slice A0 n0 c0] 26) = X2 at HX ⊢
  generalize w2.heap.size = gm at HX ⊢
  have m0 := (HX.out.m.cell 0).trans (show _ = some (.int .i64 2) from rfl)
  have HL0 : Hid (AwL X2.heap.size (((X2.alloc (.cells #[.string ⟨#[78, 117, 109]⟩, .string ⟨#[84, 101, 120, 116]⟩, .string ⟨#[83, 117, 109]⟩, .string ⟨#[78, 117, 109]⟩] 9)).alloc (.cells #[.string ⟨#[105, 116, 101, 109]⟩, .string ⟨#[110, 111, 116, 101]⟩, .string ⟨#[105, 116, 101, 109]⟩, .string ⟨#[105, 116, 101, 109]⟩] 9)).alloc (.cells #[.int .i64 0, .int .i64 0, .int .i64 1, .int .i64 0] 3)) ∧ Below X2.heap.size X2 (((X2.alloc (.cells #[.string ⟨#[78, 117, 109]⟩, .string ⟨#[84, 101, 120, 116]⟩, .string ⟨#[83, 117, 109]⟩, .string ⟨#[78, 117, 109]⟩] 9)).alloc (.cells #[.string ⟨#[105, 116, 101, 109]⟩, .string ⟨#[110, 111, 116, 101]⟩, .string ⟨#[105, 116, 101, 109]⟩, .string ⟨#[105, 116, 101, 109]⟩] 9)).alloc (.cells #[.int .i64 0, .int .i64 0, .int .i64 1, .int .i64 0] 3))) := Lib.hid ⟨⟨((Blk.new _ _ _).alloc _).alloc _, (Blk.new' (by simp)).alloc _, Blk.new' (by simp)⟩, below_more (below_more (below_more (Below.refl _ _) _) _) _⟩
  go_upto_region 5 with (fail)
  replace HX := Lib.hid (HX.out.after HL0.out.2)
  replace HL0 := Lib.hid HL0.out.1
  generalize ((X2.alloc (.cells #[.string ⟨#[78, 117, 109]⟩, .string ⟨#[84, 101, 120, 116]⟩, .string ⟨#[83, 117, 109]⟩, .string ⟨#[78, 117, 109]⟩] 9)).alloc (.cells #[.string ⟨#[105, 116, 101, 109]⟩, .string ⟨#[110, 111, 116, 101]⟩, .string ⟨#[105, 116, 101, 109]⟩, .string ⟨#[105, 116, 101, 109]⟩] 9)).alloc (.cells #[.int .i64 0, .int .i64 0, .int .i64 1, .int .i64 0] 3) = X3 at HX HL0 ⊢
  generalize X2.heap.size = gs at HL0 ⊢
  clear m0 HAd1
  go_wp2_with fail
  go_loopw [2, 3, 7] (fun v2 v3 v7 wr => ∃ (k : Nat) (A : Option Addr) (n c : Nat) (l : List (Nd × Leaf)), k ≤ 4 ∧ v2 = .int .i64 (k + 1) ∧ v3 = .int .i64 0 ∧ v7 = .int .i64 k ∧ Hid (BM w gm (k + 2) (awS k) A n c l wr) ∧ Hid (AwL gs wr)) (fun _ _ v _ => 4 - (intOf v).toNat)
  case atStart => exact ⟨0, A0, n0, c0, l0, Nat.zero_le _, rfl, rfl, rfl, HX, HL0⟩
  case round =>
    clear HX HL0
    obtain ⟨k, A, n, c, l, hk4, rfl, rfl, rfl, HX, HL⟩ := hrel
    rename World => wr
    by_cases hk : k < 4
    · have HSof : Hid (∀ X, AwL gs X → X.cell? ⟨gs, k, none⟩ = some (.string (awC k)) ∧ X.cell? ⟨gs + 1, k, none⟩ = some (.string (awR k)) ∧ X.cell? ⟨gs + 1 + 1, k, none⟩ = some (.int .i64 (awP k))) := Lib.hid fun X hX => hX.at_ hk
      have HAd : Hid (∀ Y, BM w gm (k + 2) (awS k) A n c l Y → Calls Tryz.prog 18 #[.agg #[.int .i64 (k + 2), .slice A n c], .int .i64 1, .string (awR k), .int .i64 (awP k), .string (awC k)] Y fun e w' => ∃ (A : Option Addr) (n c : Nat) (l : List (Nd × Leaf)), e = .returned (.tuple #[.agg #[.int .i64 ((k : Int) + 2 + 1), .slice A n c], .int .i64 ((k : Int) + 2), .int .i64 0]) ∧ OwnM w' Y.heap.size (.slice A n c) l ∧ l.length = n ∧ l.map (·.1) = awS (k + 1) ∧ Below Y.heap.size Y w') := Lib.hid fun Y hY => (add_any Y Y.heap.size (k + 2) 1 (awP k) (awR k) (awC k) A n c (awS k) hY.nodes (Nat.le_refl _) (aw_sz k).2 (aw_sz k).1 (aw_fit k hk4)).mono fun e w' he => aw_added he (aw_step k hk).1 (aw_step k hk).2
      go_upto_region 8 with (fail)
      replace HX := Lib.hid (HX.out.after (below_drew1 _))
      replace HL := Lib.hid (HL.out.after (below_drew1 _))
      refine wp_region_held (S := fun w' => w'.cell? ⟨gs, k, none⟩ = some (.string (awC k)) ∧ w'.cell? ⟨gs + 1, k, none⟩ = some (.string (awR k)) ∧ w'.cell? ⟨gs + 1 + 1, k, none⟩ = some (.int .i64 (awP k))) (by kernel_rfl) ?_
      show wpAnyH _ _ _ _ _ 21 (Array.replicate 21 false) _ wr.drew
      generalize wr.drew = wz at HX HL ⊢
      have hHeld : (fun w' => w'.cell? ⟨gs, k, none⟩ = some (.string (awC k)) ∧ w'.cell? ⟨gs + 1, k, none⟩ = some (.string (awR k)) ∧ w'.cell? ⟨gs + 1 + 1, k, none⟩ = some (.int .i64 (awP k))) wz := HSof.out _ HL.out
      have m0 := (HX.out.m.cell 0).trans (show _ = some (.int .i64 (k + 2)) from rfl)
      have m1 := (HX.out.m.cell 1).trans (show _ = some (.slice A n c) from rfl)
      refine wpAnyH_take (i := 1) (v := (.slice (some ⟨gs + 1, 0, none⟩) 4 4)) rfl (by kernel_rfl) (by kernel_rfl) (by kernel_rfl) (fun _ _ _ h => h) (Or.inl ⟨by rfl, ?yt_1⟩) (by assumption) ?qt_1
      case yt_1 => (intro w hSw; (try dsimp only at hSw); go_simp)
      case qt_1 =>
        (try simp only [Act.put]); (try simp only [List.setIfInBounds_toArray])
        refine wpAnyH_take (i := 2) (v := (.int .i64 k)) rfl (by kernel_rfl) (by kernel_rfl) (by kernel_rfl) (fun _ _ _ h => h) (Or.inl ⟨by rfl, ?yt_2⟩) (by assumption) ?qt_2
        case yt_2 => (intro w hSw; (try dsimp only at hSw); go_simp)
        case qt_2 =>
          (try simp only [Act.put]); (try simp only [List.setIfInBounds_toArray])
          refine wpAnyH_take (i := 3) (v := (.pointer (some ⟨gs + 1, k, none⟩))) rfl (by kernel_rfl) (by kernel_rfl) (by kernel_rfl) (fun _ _ _ h => h) (Or.inl ⟨by rfl, ?yt_3⟩) (by assumption) ?qt_3
          case yt_3 => (intro w hSw; (try dsimp only at hSw); go_simp)
          case qt_3 =>
            (try simp only [Act.put]); (try simp only [List.setIfInBounds_toArray])
            refine wpAnyH_take (i := 4) (v := (.string (awR k))) rfl (by kernel_rfl) (by kernel_rfl) (by kernel_rfl) (fun _ _ _ h => h) (Or.inl ⟨by rfl, ?yt_4⟩) (by assumption) ?qt_4
            case yt_4 => (intro w hSw; (try dsimp only at hSw); go_simp)
            case qt_4 =>
              (try simp only [Act.put]); (try simp only [List.setIfInBounds_toArray])
              refine wpAnyH_take (i := 5) (v := (.slice (some ⟨gs + 1 + 1, 0, none⟩) 4 4)) rfl (by kernel_rfl) (by kernel_rfl) (by kernel_rfl) (fun _ _ _ h => h) (Or.inl ⟨by rfl, ?yt_5⟩) (by assumption) ?qt_5
              case yt_5 => (intro w hSw; (try dsimp only at hSw); go_simp)
              case qt_5 =>
                (try simp only [Act.put]); (try simp only [List.setIfInBounds_toArray])
                refine wpAnyH_take (i := 6) (v := (.int .i64 k)) rfl (by kernel_rfl) (by kernel_rfl) (by kernel_rfl) (fun _ _ _ h => h) (Or.inl ⟨by rfl, ?yt_6⟩) (by assumption) ?qt_6
                case yt_6 => (intro w hSw; (try dsimp only at hSw); go_simp)
                case qt_6 =>
                  (try simp only [Act.put]); (try simp only [List.setIfInBounds_toArray])
                  refine wpAnyH_take (i := 7) (v := (.pointer (some ⟨gs + 1 + 1, k, none⟩))) rfl (by kernel_rfl) (by kernel_rfl) (by kernel_rfl) (fun _ _ _ h => h) (Or.inl ⟨by rfl, ?yt_7⟩) (by assumption) ?qt_7
                  case yt_7 => (intro w hSw; (try dsimp only at hSw); go_simp)
                  case qt_7 =>
                    (try simp only [Act.put]); (try simp only [List.setIfInBounds_toArray])
                    refine wpAnyH_take (i := 8) (v := (.int .i64 (awP k))) rfl (by kernel_rfl) (by kernel_rfl) (by kernel_rfl) (fun _ _ _ h => h) (Or.inl ⟨by rfl, ?yt_8⟩) (by assumption) ?qt_8
                    case yt_8 => (intro w hSw; (try dsimp only at hSw); go_simp)
                    case qt_8 =>
                      (try simp only [Act.put]); (try simp only [List.setIfInBounds_toArray])
                      refine wpAnyH_take (i := 9) (v := (.slice (some ⟨gs, 0, none⟩) 4 4)) rfl (by kernel_rfl) (by kernel_rfl) (by kernel_rfl) (fun _ _ _ h => h) (Or.inl ⟨by rfl, ?yt_9⟩) (by assumption) ?qt_9
                      case yt_9 => (intro w hSw; (try dsimp only at hSw); go_simp)
                      case qt_9 =>
                        (try simp only [Act.put]); (try simp only [List.setIfInBounds_toArray])
                        refine wpAnyH_take (i := 10) (v := (.int .i64 k)) rfl (by kernel_rfl) (by kernel_rfl) (by kernel_rfl) (fun _ _ _ h => h) (Or.inl ⟨by rfl, ?yt_10⟩) (by assumption) ?qt_10
                        case yt_10 => (intro w hSw; (try dsimp only at hSw); go_simp)
                        case qt_10 =>
                          (try simp only [Act.put]); (try simp only [List.setIfInBounds_toArray])
                          refine wpAnyH_take (i := 11) (v := (.pointer (some ⟨gs, k, none⟩))) rfl (by kernel_rfl) (by kernel_rfl) (by kernel_rfl) (fun _ _ _ h => h) (Or.inl ⟨by rfl, ?yt_11⟩) (by assumption) ?qt_11
                          case yt_11 => (intro w hSw; (try dsimp only at hSw); go_simp)
                          case qt_11 =>
                            (try simp only [Act.put]); (try simp only [List.setIfInBounds_toArray])
                            refine wpAnyH_take (i := 12) (v := (.string (awC k))) rfl (by kernel_rfl) (by kernel_rfl) (by kernel_rfl) (fun _ _ _ h => h) (Or.inl ⟨by rfl, ?yt_12⟩) (by assumption) ?qt_12
                            case yt_12 => (intro w hSw; (try dsimp only at hSw); go_simp)
                            case qt_12 =>
                              (try simp only [Act.put]); (try simp only [List.setIfInBounds_toArray])
                              refine wpAnyH_ready (rs := [0]) (by kernel_rfl) (by simp) ?_
                              refine AllReadyH.cons rfl (fun K hK => ?st_13) ?mt_13
                              case st_13 =>
                                go_simp
                                refine hK.out _ _ ?kt_13 (fun hHeld => ?qt_13)
                                case kt_13 => ((try dsimp only); first | exact HSof.out _ HL6.out | exact HSof.out _ HL.out)
                                case qt_13 =>
                                  clear hK K
                                  (try simp only [Act.put]); (try simp only [List.setIfInBounds_toArray])
                                  refine wpAnyH_ready (rs := [13]) (by kernel_rfl) (by simp) ?_
                                  refine AllReadyH.cons rfl (fun K hK => ?st_14) ?mt_14
                                  case st_14 =>
                                    (refine step_call _ (by rfl) 18 #[.agg #[.int .i64 (k + 2), .slice A n c], .int .i64 1, .string (awR k), .int .i64 (awP k), .string (awC k)] (by go_simp) (HAd.out _ HX.out) ?_; rintro e w5 ⟨A5, n5, c5, l5, rfl, ho5, hl5, hm5, hb5⟩; refine ⟨_, rfl, ?_⟩; have hX5 := HX.out.after hb5; have hL5 := HL.out.after hb5; have p0 := (hX5.m.cell 0).trans (show _ = some (.int .i64 (k + 2)) from rfl); have p1 := (hX5.m.cell 1).trans (show _ = some (.slice A n c) from rfl); have p2 := hX5.m.frozen 0; have p3 := hX5.m.frozen 1; have HX6 := Lib.hid (hX5.set (next' := (k : Int) + 2 + 1) (ho5.mono HX.out.bel.size) hl5 hm5); have HL6 := Lib.hid ((hL5.far hX5.m 0 (.int .i64 ((k : Int) + 2 + 1))).far (hX5.m.set_ 0 _) 1 (.slice A5 n5 c5)); replace HX := Lib.hid hX5; replace HL := Lib.hid hL5; clear hX5 hL5 ho5 hl5 hm5 hb5 m0 m1)
                                    refine hK.out _ _ ?kt_14 (fun hHeld => ?qt_14)
                                    case kt_14 => ((try dsimp only); first | exact HSof.out _ HL6.out | exact HSof.out _ HL.out)
                                    case qt_14 =>
                                      clear hK K
                                      (try simp only [Act.put]); (try simp only [List.setIfInBounds_toArray])
                                      refine wpAnyH_take (i := 14) (v := (.tuple #[.agg #[.int .i64 ((k : Int) + 2 + 1), .slice A5 n5 c5], .int .i64 ((k : Int) + 2), .int .i64 0])) rfl (by kernel_rfl) (by kernel_rfl) (by kernel_rfl) (fun _ _ _ h => h) (Or.inl ⟨by rfl, ?yt_15⟩) (by assumption) ?qt_15
                                      case yt_15 => (intro w hSw; (try dsimp only at hSw); go_simp)
                                      case qt_15 =>
                                        (try simp only [Act.put]); (try simp only [List.setIfInBounds_toArray])
                                        refine wpAnyH_take (i := 15) (v := (.agg #[.int .i64 ((k : Int) + 2 + 1), .slice A5 n5 c5])) rfl (by kernel_rfl) (by kernel_rfl) (by kernel_rfl) (fun _ _ _ h => h) (Or.inl ⟨by rfl, ?yt_16⟩) (by assumption) ?qt_16
                                        case yt_16 => (intro w hSw; (try dsimp only at hSw); go_simp)
                                        case qt_16 =>
                                          (try simp only [Act.put]); (try simp only [List.setIfInBounds_toArray])
                                          refine wpAnyH_take (i := 16) (v := (.int .i64 ((k : Int) + 2))) rfl (by kernel_rfl) (by kernel_rfl) (by kernel_rfl) (fun _ _ _ h => h) (Or.inl ⟨by rfl, ?yt_17⟩) (by assumption) ?qt_17
                                          case yt_17 => (intro w hSw; (try dsimp only at hSw); go_simp)
                                          case qt_17 =>
                                            (try simp only [Act.put]); (try simp only [List.setIfInBounds_toArray])
                                            refine wpAnyH_take (i := 17) (v := (.int .i64 0)) rfl (by kernel_rfl) (by kernel_rfl) (by kernel_rfl) (fun _ _ _ h => h) (Or.inl ⟨by rfl, ?yt_18⟩) (by assumption) ?qt_18
                                            case yt_18 => (intro w hSw; (try dsimp only at hSw); go_simp)
                                            case qt_18 =>
                                              (try simp only [Act.put]); (try simp only [List.setIfInBounds_toArray])
                                              refine wpAnyH_ready (rs := [18]) (by kernel_rfl) (by simp) ?_
                                              refine AllReadyH.cons rfl (fun K hK => ?st_19) ?mt_19
                                              case st_19 =>
                                                go_simp
                                                refine hK.out _ _ ?kt_19 (fun hHeld => ?qt_19)
                                                case kt_19 => ((try dsimp only); first | exact HSof.out _ HL6.out | exact HSof.out _ HL.out)
                                                case qt_19 =>
                                                  clear hK K
                                                  (try simp only [Act.put]); (try simp only [List.setIfInBounds_toArray])
                                                  refine wpAnyH_take (i := 19) (v := (.int .i64 ((k : Int) + 2))) rfl (by kernel_rfl) (by kernel_rfl) (by kernel_rfl) (fun _ _ _ h => h) (Or.inl ⟨by rfl, ?yt_20⟩) (by assumption) ?qt_20
                                                  case yt_20 => (intro w hSw; (try dsimp only at hSw); go_simp)
                                                  case qt_20 =>
                                                    (try simp only [Act.put]); (try simp only [List.setIfInBounds_toArray])
                                                    refine wpAnyH_take (i := 20) (v := (.int .i64 0)) rfl (by kernel_rfl) (by kernel_rfl) (by kernel_rfl) (fun _ _ _ h => h) (Or.inl ⟨by rfl, ?yt_21⟩) (by assumption) ?qt_21
                                                    case yt_21 => (intro w hSw; (try dsimp only at hSw); go_simp)
                                                    case qt_21 =>
                                                      (try simp only [Act.put]); (try simp only [List.setIfInBounds_toArray])
                                                      refine wpAnyH_done (by kernel_rfl) ?_ _
                                                      clear hHeld
                                                      generalize (w5.setCell ⟨gm, 0, none⟩ (.int .i64 ((k : Int) + 2 + 1))).setCell ⟨gm, 1, none⟩ (.slice A5 n5 c5) = Y at HX6 HL6 ⊢
                                                      clear p0 p1 p2 p3 HX HL
                                                      go_wp2_with fail
                                                      go_roundw
                                                      case rel => exact ⟨k + 1, A5, n5, c5, l5, by omega, by go_num, rfl, by go_num, Lib.hid (by have := HX6.out; rw [show ((k + 1 : Nat) : Int) + 2 = (k : Int) + 2 + 1 from by omega]; exact this), HL6⟩
                                                      case measure => simp only [intOf]; omega
                                              case mt_19 =>
                                                exact AllReadyH.nil
                                  case mt_14 =>
                                    exact AllReadyH.nil
                              case mt_13 =>
                                exact AllReadyH.nil
    · obtain rfl : k = 4 := by omega
      have HX4 : Hid (BM w gm 6 (awS 4) A n c l wr) := Lib.hid HX.out
      clear HX HL
      have HFi : Hid (∀ X, BM w gm 6 (awS 4) A n c l X → Calls Tryz.prog 13 #[.agg #[.int .i64 6, .slice A n c], .int .i64 1] X (FindIs X (findV 6 (awS 4) 1))) := Lib.hid fun X hX => find_any' X X.heap.size 6 1 A n c (awS 4) hX.nodes (Nat.le_refl _) (aw_fit 4 (Nat.le_refl _))
      have HMo : Hid (∀ X, BM w gm 6 (awS 4) A n c l X → Calls Tryz.prog 21 #[.agg #[.int .i64 6, .slice A n c], .int .i64 1, .int .i64 2, .string ⟨#[105, 116, 101, 109]⟩, .int .i64 0] X (fun e w' => e = .returned (.tuple #[.agg #[.int .i64 0, .slice none 0 0], .int .i64 21]) ∧ Below X.heap.size X w')) := Lib.hid fun X hX => (move_any X X.heap.size 6 1 2 0 sItem A n c (awS 4) hX.nodes (Nat.le_refl _) (by decide) (aw_fit 4 (Nat.le_refl _))).mono fun e w' he => by
        obtain ⟨nx, A', n', c', he, hb, h1, _⟩ := he
        rw [aw_move] at he h1
        obtain ⟨rfl, rfl, rfl, rfl⟩ := h1 (by decide)
        exact ⟨he, hb⟩
      have HKi : Hid (∀ X, BM w gm 6 (awS 4) A n c l X → Calls Tryz.prog 17 #[.agg #[.int .i64 6, .slice A n c], .int .i64 1, .string ⟨#[105, 116, 101, 109]⟩] X (fun e w' => ∃ (A9 : Option Addr) (c9 : Nat), e = .returned (.slice A9 3 c9) ∧ w'.ownsRow X.heap.size 3 1 (.slice A9 3 c9) 3 (intCells [5, 2, 4]) ∧ Below X.heap.size X w')) := Lib.hid fun X hX => (kidsQ_any X X.heap.size 6 1 sItem A n c (awS 4) hX.nodes (Nat.le_refl _)).mono fun e w' he => by
        rw [aw_kids] at he
        obtain ⟨v, he, hv, hb⟩ := he
        obtain ⟨A9, c9, rfl⟩ := own_form hv
        exact ⟨A9, c9, he, hv, hb⟩
      have HCk : Hid (∀ X, BM w gm 6 (awS 4) A n c l X → Calls Tryz.prog 12 #[.agg #[.int .i64 6, .slice A n c]] X (Ret X (.int .i64 0))) := Lib.hid fun X hX => by
        have := check_any X X.heap.size 6 A n c (awS 4) hX.nodes (Nat.le_refl _)
        unfold checkV at this
        rw [aw_right] at this
        exact this
      have HDe : Hid (∀ X, BM w gm 6 (awS 4) A n c l X → Calls Tryz.prog 28 #[.agg #[.int .i64 6, .slice A n c], .int .i64 4] X (Ret X (.int .i64 2))) := Lib.hid fun X hX => by
        have := depthQ_any X X.heap.size 6 4 A n c (awS 4) hX.nodes (Nat.le_refl _)
        rw [aw_depth] at this
        exact this
      have m0 := (HX4.out.m.cell 0).trans (show _ = some (.int .i64 6) from rfl)
      have m1 := (HX4.out.m.cell 1).trans (show _ = some (.slice A n c) from rfl)
      obtain ⟨nd, hnd⟩ : ∃ nd, findV 6 (awS 4) 1 = (nd, true) := ⟨(findV 6 (awS 4) 1).1, by rw [← aw_find.1]⟩
      have hkids : nd.kids = [5, 2, 4, 3] := by have := aw_find.2; rw [hnd] at this; exact this
      have HI1 : Hid (∀ (X : World) (B : Nat) (Ak : Option Addr) (ck : Nat), X.ownsRow B 3 1 (.slice Ak 4 ck) 4 (intCells [5, 2, 4, 3]) → Calls Tryz.prog 22 #[.slice Ak 4 ck, .slice (some ⟨X.heap.size, 0, none⟩) 4 4] (X.alloc (.cells #[.int .i64 5, .int .i64 2, .int .i64 4, .int .i64 3] 3)) (Ret (X.alloc (.cells #[.int .i64 5, .int .i64 2, .int .i64 4, .int .i64 3] 3)) (.bool true))) := Lib.hid fun X B Ak ck h => ints_lit h rfl rfl (by decide)
      have HI2 : Hid (∀ (X : World) (B : Nat) (Ak : Option Addr) (ck : Nat), X.ownsRow B 3 1 (.slice Ak 3 ck) 3 (intCells [5, 2, 4]) → Calls Tryz.prog 22 #[.slice Ak 3 ck, .slice (some ⟨X.heap.size, 0, none⟩) 3 3] (X.alloc (.cells #[.int .i64 5, .int .i64 2, .int .i64 4] 3)) (Ret (X.alloc (.cells #[.int .i64 5, .int .i64 2, .int .i64 4] 3)) (.bool true))) := Lib.hid fun X B Ak ck h => ints_lit h rfl rfl (by decide)
      rw [hnd] at HFi
      have HKL : Hid (nd.kids.length = 4 ∧ nd.kids = [5, 2, 4, 3]) := Lib.hid ⟨by rw [hkids]; rfl, hkids⟩
      clear hnd
      go_upto_region 12 with (go_at_call 13; (with_reducible refine (HFi.out _ HX4.out).mono ?_); go_must (rintro e w5 ⟨⟨⟨Ap, np, cp⟩, ⟨Ak, nk, ck⟩, ⟨Ar, nr, cr⟩⟩, rfl, hlf, hb5⟩; obtain rfl : nk = 4 := (show nk = nd.kids.length from hlf.kn).trans HKL.out.1; have hrk : w5.ownsRow w.heap.size 3 1 (.slice Ak 4 ck) 4 (intCells [5, 2, 4, 3]) := HKL.out.2 ▸ (own_mono hlf.k HX4.out.bel.size); have HY := Lib.hid (HX4.out.after hb5); have HK := Lib.hid hrk; clear hlf hb5 hrk))
      have HN : Hid (Blk (w5.alloc (.cells #[.int .i64 nd.id, .string nd.con, .int .i64 nd.par, .string nd.role, .slice Ap np cp, .slice Ak 4 ck, .slice Ar nr cr] 41)) w5.heap.size 41 #[.int .i64 nd.id, .string nd.con, .int .i64 nd.par, .string nd.role, .slice Ap np cp, .slice Ak 4 ck, .slice Ar nr cr]) := Lib.hid (Blk.new _ _ _)
      replace HY := Lib.hid (HY.out.after (below_box _ (.cells #[.int .i64 nd.id, .string nd.con, .int .i64 nd.par, .string nd.role, .slice Ap np cp, .slice Ak 4 ck, .slice Ar nr cr] 41)))
      replace HK := Lib.hid (own_after HK.out (below_box _ (.cells #[.int .i64 nd.id, .string nd.con, .int .i64 nd.par, .string nd.role, .slice Ap np cp, .slice Ak 4 ck, .slice Ar nr cr] 41)))
      generalize w5.alloc (.cells #[.int .i64 nd.id, .string nd.con, .int .i64 nd.par, .string nd.role, .slice Ap np cp, .slice Ak 4 ck, .slice Ar nr cr] 41) = X6 at HN HY HK ⊢
      generalize w5.heap.size = g8 at HN ⊢
      clear m0 m1 hkids
      have m0 := (HY.out.m.cell 0).trans (show _ = some (.int .i64 6) from rfl)
      have m1 := (HY.out.m.cell 1).trans (show _ = some (.slice A n c) from rfl)
      go_upto_region 13 with (go_at_call 21; (with_reducible refine (HMo.out _ HY.out).mono ?_); go_must (rintro e w6 ⟨rfl, hb6⟩; replace HY := Lib.hid (HY.out.after hb6); replace HN := Lib.hid (HN.out.after hb6); replace HK := Lib.hid (own_after HK.out hb6); clear hb6))
      have hbx := below_box w6 (.cells #[.int .i64 0, .slice none 0 0] 26)
      replace HY := Lib.hid (HY.out.after hbx)
      replace HN := Lib.hid (HN.out.after hbx)
      replace HK := Lib.hid (own_after HK.out hbx)
      clear hbx m0 m1
      generalize w6.alloc (.cells #[.int .i64 0, .slice none 0 0] 26) = X7 at HY HN HK ⊢
      have n5 := (HN.out.cell 5).trans (show _ = some (.slice Ak 4 ck) from rfl)
      go_wp2_with (first | (go_at_call 22; (with_reducible refine (HI1.out _ _ _ _ HK.out).mono ?_); go_must (rintro e w8 ⟨rfl, hb8⟩; have HY8 := Lib.hid ((HY.out.after (below_box _ _)).after hb8); clear hb8; have m0 := (HY8.out.m.cell 0).trans (show _ = some (.int .i64 6) from rfl); have m1 := (HY8.out.m.cell 1).trans (show _ = some (.slice A n c) from rfl))) | (go_at_call 17; (with_reducible refine (HKi.out _ HY8.out).mono ?_); go_must (rintro e w9 ⟨A9, c9, rfl, hv9, hb9⟩; have HY9 := Lib.hid (HY8.out.after hb9); have HK9 := Lib.hid hv9; clear hv9 hb9)) | (go_at_call 22; (with_reducible refine (HI2.out _ _ _ _ HK9.out).mono ?_); go_must (rintro e wa ⟨rfl, hba⟩; have HYa := Lib.hid ((HY9.out.after (below_box _ _)).after hba); clear hba; have p0 := (HYa.out.m.cell 0).trans (show _ = some (.int .i64 6) from rfl); have p1 := (HYa.out.m.cell 1).trans (show _ = some (.slice A n c) from rfl))) | (go_at_call 12; (with_reducible refine (HCk.out _ HYa.out).mono ?_); go_must (rintro e wb ⟨rfl, hbb⟩; have HYb := Lib.hid (HYa.out.after hbb); clear hbb; have q0 := (HYb.out.m.cell 0).trans (show _ = some (.int .i64 6) from rfl); have q1 := (HYb.out.m.cell 1).trans (show _ = some (.slice A n c) from rfl))) | (go_at_call 28; (with_reducible refine (HDe.out _ HYb.out).mono ?_); go_must (rintro e wc ⟨rfl, hbc⟩; have HYc := Lib.hid (HYb.out.after hbc); clear hbc)))
      go_ret
      exact ret_b (by simp) rfl HYc.out.bel
end Go.Proofs.YtohinklkcinjpaaGreat
namespace Go.Proofs.YtohinklkcinjpaaGreat
open Go Go.RowKit Go.Sort
set_option linter.unusedVariables false
attribute [local go_sem ↓] Go.wp_at_zero Go.wp_at_succ
def Ac.cells (x : Ac) : Array Value := #[.int .i64 x.kind, .int .i64 x.a, .int .i64 x.b, .int .i64 x.at_, .string x.word, .string x.text]
theorem own_kh {H B e size n : Nat} {X X' : World} {v : Value} {xs : List Value} (h : X.ownsRow B e size v n xs) (hH : H ≤ B) (hk : KH H X X') : X'.ownsRow B e size v n xs := by
  rcases h.2 with ⟨hv, hn⟩ | ⟨g, cap, cur, hv, hb, hg, rest⟩
  · exact ⟨h.1, .inl ⟨hv, hn⟩⟩
  · refine ⟨h.1, .inr ⟨g, cap, cur, hv, hb, ?_, rest⟩⟩
    rw [hk.keep g (by omega) (Array.getElem?_eq_some_iff.1 hg).1]
    exact hg
theorem OwnM.kh {H B : Nat} {X X' : World} {v : Value} {l : List (Nd × Leaf)} (h : OwnM X B v l) (hH : H ≤ B) (hk : KH H X X') : OwnM X' B v l :=
  ⟨own_kh h.own hH hk, fun p hp => by
    have := h.leaf p hp
    exact ⟨this.pn, this.kn, this.rn, own_kh this.p hH hk, own_kh this.k hH hk, own_kh this.r hH hk, this.sz⟩⟩
theorem Blk.kh {H g : Nat} {X X' : World} {t : TypeId} {cs : Array Value} (h : Blk X g t cs) (hH : H ≤ g) (hk : KH H X X') : Blk X' g t cs := by
  have := hk.keep g hH h.lt
  unfold Blk at h ⊢
  rw [this]; exact h
theorem own_ltH {B e size n c g : Nat} {X : World} {xs : List Value} (h : X.ownsRow B e size (.slice (some ⟨g, 0, none⟩) n c) n xs) : g < X.heap.size := by
  obtain ⟨cs, hg, _⟩ := own_blk h
  exact hg.lt
theorem OwnM.ltL {B : Nat} {X : World} {v : Value} {l : List (Nd × Leaf)} (h : OwnM X B v l) : ∀ p ∈ l, LtL X.heap.size p.2 := fun p hp => by
  have := h.leaf p hp
  obtain ⟨nd, ⟨⟨Ap, np, cp⟩, ⟨Ak, nk, ck⟩, ⟨Ar, nr, cr⟩⟩⟩ := p
  exact ⟨fun g e => own_ltH (e ▸ this.p), fun g e => own_ltH (e ▸ this.k), fun g e => own_ltH (e ▸ this.r)⟩
/-- what an act makes of a model that lies in memory -/
theorem done_two {X : World} {s : Int × List Nd} {A : Option Addr} {n c : Nat} {e : Ending} {w' : World} {x : Ac} (h : NodesIn X 0 X.heap.size A n c s.2) (hd : DonePost X s.1 A n c (actR s.1 s.2 x) e w') :
    ∃ (A' : Option Addr) (n' c' : Nat), e = .returned (.tuple #[.agg #[.int .i64 (stepM s x).1, .slice A' n' c'], .int .i64 (actR s.1 s.2 x).2.1]) ∧ Below X.heap.size X w' ∧ NodesIn w' 0 w'.heap.size A' n' c' (stepM s x).2 ∧
      ((actR s.1 s.2 x).2.1 = 0 → ∃ l', OwnM w' X.heap.size (.slice A' n' c') l' ∧ l'.length = n') := by
  obtain ⟨z, A', n', c', he, hb, h1, h2⟩ := hd
  unfold stepM
  by_cases h0 : (actR s.1 s.2 x).2.1 = 0
  · rw [if_pos h0]
    obtain ⟨rfl, l', ho, hl, hm⟩ := h2 h0
    refine ⟨A', n', c', he, hb, ?_, fun _ => ⟨l', ho, hl⟩⟩
    rw [← hm]
    exact (ho.nodesIn hl).mono (Nat.zero_le _) (Nat.le_refl _)
  · rw [if_neg h0]
    obtain ⟨rfl, rfl, rfl, rfl⟩ := h1 h0
    exact ⟨_, _, _, he, hb, (h.below hb).mono (Nat.le_refl _) hb.size, fun h => absurd h h0⟩
/-- the boxes of the act, of a model and of its twin -/
structure F5 (w : World) (ac : Array Value) (x1 : Int) (nds : List Nd) (g5 g6 : Nat) (A1 : Option Addr) (n1 c1 : Nat) (l1 : List (Nd × Leaf)) (A4 : Option Addr) (n4 c4 : Nat) (l4 : List (Nd × Leaf)) (X : World) : Prop where
  a : Blk X w.heap.size 32 ac
  m : Blk X g5 26 #[.int .i64 x1, .slice A1 n1 c1]
  t : Blk X g6 26 #[.int .i64 x1, .slice A4 n4 c4]
  om : OwnM X w.heap.size (.slice A1 n1 c1) l1
  lm : l1.length = n1
  mm : l1.map (·.1) = nds
  ot : OwnM X w.heap.size (.slice A4 n4 c4) l4
  lt : l4.length = n4
  mt : l4.map (·.1) = nds
  bel : Below w.heap.size w X
section
variable {w X X' : World} {ac : Array Value} {x1 : Int} {nds : List Nd} {g5 g6 : Nat} {A1 A4 : Option Addr} {n1 c1 n4 c4 : Nat} {l1 l4 : List (Nd × Leaf)}
theorem F5.after (h : F5 w ac x1 nds g5 g6 A1 n1 c1 l1 A4 n4 c4 l4 X) (hb : Below X.heap.size X X') : F5 w ac x1 nds g5 g6 A1 n1 c1 l1 A4 n4 c4 l4 X' :=
  ⟨h.a.after hb, h.m.after hb, h.t.after hb, h.om.after hb, h.lm, h.mm, h.ot.after hb, h.lt, h.mt, h.bel.trans (hb.mono h.bel.size)⟩
theorem F5.nm (h : F5 w ac x1 nds g5 g6 A1 n1 c1 l1 A4 n4 c4 l4 X) : NodesIn X 0 X.heap.size A1 n1 c1 nds := by
  rw [← h.mm]; exact (h.om.nodesIn h.lm).mono (Nat.zero_le _) (Nat.le_refl _)
theorem F5.nt (h : F5 w ac x1 nds g5 g6 A1 n1 c1 l1 A4 n4 c4 l4 X) : NodesIn X 0 X.heap.size A4 n4 c4 nds := by
  rw [← h.mt]; exact (h.ot.nodesIn h.lt).mono (Nat.zero_le _) (Nat.le_refl _)
end
/-- the boxes of what an act made, and of its twin -/
structure F9 (H : Nat) (x1 : Int) (nds : List Nd) (g7 g9 : Nat) (A6 : Option Addr) (n6 c6 : Nat) (A8 : Option Addr) (n8 c8 : Nat) (l8 : List (Nd × Leaf)) (X : World) : Prop where
  m : Blk X g7 26 #[.int .i64 x1, .slice A6 n6 c6]
  t : Blk X g9 26 #[.int .i64 x1, .slice A8 n8 c8]
  h7 : H ≤ g7
  h9 : H ≤ g9
  ot : OwnM X H (.slice A8 n8 c8) l8
  lt : l8.length = n8
  mt : l8.map (·.1) = nds
section
variable {H : Nat} {X X' : World} {x1 : Int} {nds : List Nd} {g7 g9 : Nat} {A6 A8 : Option Addr} {n6 c6 n8 c8 : Nat} {l8 : List (Nd × Leaf)}
theorem F9.after (h : F9 H x1 nds g7 g9 A6 n6 c6 A8 n8 c8 l8 X) (hb : Below X.heap.size X X') : F9 H x1 nds g7 g9 A6 n6 c6 A8 n8 c8 l8 X' := ⟨h.m.after hb, h.t.after hb, h.h7, h.h9, h.ot.after hb, h.lt, h.mt⟩
theorem F9.kh (h : F9 H x1 nds g7 g9 A6 n6 c6 A8 n8 c8 l8 X) (hk : KH H X X') : F9 H x1 nds g7 g9 A6 n6 c6 A8 n8 c8 l8 X' := ⟨h.m.kh h.h7 hk, h.t.kh h.h9 hk, h.h7, h.h9, h.ot.kh (Nat.le_refl _) hk, h.lt, h.mt⟩
theorem F9.nt (h : F9 H x1 nds g7 g9 A6 n6 c6 A8 n8 c8 l8 X) : NodesIn X 0 X.heap.size A8 n8 c8 nds := by
  rw [← h.mt]; exact (h.ot.nodesIn h.lt).mono (Nat.zero_le _) (Nat.le_refl _)
end
set_option maxRecDepth 20000 in
set_option maxHeartbeats 3200000 in
theorem own_law (w : World) (hi : Nat) (Aa : Option Addr) (na ca : Nat) (acts : List Ac) (x : Ac) (h : ActsIn w hi Aa na ca acts) (hh : hi ≤ w.heap.size) (hx : SzA x) :
    Calls Tryz.prog 6 #[.slice Aa na ca, .agg #[.int .i64 x.kind, .int .i64 x.a, .int .i64 x.b, .int .i64 x.at_, .string x.word, .string x.text]] w (Ret w (.bool true)) := by
  obtain ⟨s, hs⟩ : ∃ s, builtV acts = s := ⟨_, rfl⟩
  have hok : Okay 150 s := hs ▸ built_okay acts
  have hok2 := (hok.step x).1
  have hb0 := below_box w (.cells #[.int .i64 x.kind, .int .i64 x.a, .int .i64 x.b, .int .i64 x.at_, .string x.word, .string x.text] 32)
  have HB0 : Hid (Blk (w.alloc (.cells #[.int .i64 x.kind, .int .i64 x.a, .int .i64 x.b, .int .i64 x.at_, .string x.word, .string x.text] 32)) w.heap.size 32 x.cells ∧ Below w.heap.size w (w.alloc (.cells #[.int .i64 x.kind, .int .i64 x.a, .int .i64 x.b, .int .i64 x.at_, .string x.word, .string x.text] 32))) := Lib.hid ⟨Blk.new _ _ _, hb0⟩
  have HBu : Hid (∀ X, Below w.heap.size w X → Calls Tryz.prog 14 #[.slice Aa na ca] X (BuiltPost X s)) := Lib.hid fun X hX => hs ▸ built_any X hi Aa na ca acts (h.below (hX.mono hh)) (Nat.le_trans hh hX.size)
  have HTw : Hid (∀ X (q : Int × List Nd) A n c, Okay 151 q → NodesIn X 0 X.heap.size A n c q.2 → Calls Tryz.prog 26 #[.agg #[.int .i64 q.1, .slice A n c]] X fun e w' => ∃ (A' : Option Addr) (n' c' : Nat) (l : List (Nd × Leaf)), e = .returned (.agg #[.int .i64 q.1, .slice A' n' c']) ∧ OwnM w' X.heap.size (.slice A' n' c') l ∧ l.length = n' ∧ l.map (·.1) = q.2 ∧ Below X.heap.size X w') := Lib.hid fun X q A n c hq hn => (twin_any X X.heap.size q.1 A n c q.2 hn (Nat.le_refl _) (by have := hq.tm.len; have := hn.1; omega) (hq.fits (by decide))).mono fun e w' he => by
    obtain ⟨ov, l, he, ho, hm, hb⟩ := he
    obtain ⟨A', c', rfl⟩ := own_form ho.own
    exact ⟨A', _, c', l, he, ho, rfl, hm, hb⟩
  have HDn : Hid (∀ X A n c, NodesIn X 0 X.heap.size A n c s.2 → Calls Tryz.prog 9 #[.agg #[.int .i64 s.1, .slice A n c], .agg #[.int .i64 x.kind, .int .i64 x.a, .int .i64 x.b, .int .i64 x.at_, .string x.word, .string x.text]] X fun e w' => ∃ (A' : Option Addr) (n' c' : Nat), e = .returned (.tuple #[.agg #[.int .i64 (stepM s x).1, .slice A' n' c'], .int .i64 (actR s.1 s.2 x).2.1]) ∧ Below X.heap.size X w' ∧ NodesIn w' 0 w'.heap.size A' n' c' (stepM s x).2 ∧ ((actR s.1 s.2 x).2.1 = 0 → ∃ l', OwnM w' X.heap.size (.slice A' n' c') l' ∧ l'.length = n')) := Lib.hid fun X A n c hn => (done_any X X.heap.size s.1 A n c s.2 x hn (Nat.le_refl _) hx.1 hx.2 (hok.fits (by decide))).mono fun e w' he => done_two hn he
  have HSa : Hid (∀ X (q : Int × List Nd) A n c A' n' c', NodesIn X 0 X.heap.size A n c q.2 → NodesIn X 0 X.heap.size A' n' c' q.2 → Calls Tryz.prog 20 #[.agg #[.int .i64 q.1, .slice A n c], .agg #[.int .i64 q.1, .slice A' n' c']] X (Ret X (.bool true))) := Lib.hid fun X q A n c A' n' c' h1 h2 => by
    have := refSame_any X X.heap.size q.1 q.1 A A' n c n' c' q.2 q.2 h1 h2 (Nat.le_refl _)
    rwa [mdE_refl] at this
  obtain ⟨q, hq⟩ : ∃ q, stepM s x = q := ⟨_, rfl⟩
  obtain ⟨er, her⟩ : ∃ er, (actR s.1 s.2 x).2.1 = er := ⟨_, rfl⟩
  rw [hq, her] at HDn
  rw [hq] at hok2
  have HOk := Lib.hid (hok.mono (k' := 151) (by decide))
  have HOk2 := Lib.hid hok2
  clear hb0 h hh hx hs hok hok2 hq her
  go_enter Tryz.func6, Tryz.ntmps6
  go_upto_region 3 with (go_at_call 7; (with_reducible refine (awake_any _).mono ?_); go_must (rintro e w1 ⟨rfl, hb1⟩; have HB1 := Lib.hid (show Blk w1 w.heap.size 32 x.cells ∧ Below w.heap.size w w1 from ⟨HB0.out.1.after hb1, HB0.out.2.trans (hb1.mono HB0.out.2.size)⟩); clear hb1 HB0))
  go_upto_region 4 with (go_at_call 14; (with_reducible refine (HBu.out _ HB1.out.2).mono ?_); go_must (rintro e w2 ⟨A1, n1, c1, l1, rfl, ho2, hl2, hm2, hb2⟩; have HB2 := Lib.hid (show Blk w2 w.heap.size 32 x.cells ∧ OwnM w2 w.heap.size (.slice A1 n1 c1) l1 ∧ l1.length = n1 ∧ l1.map (·.1) = s.2 ∧ Below w.heap.size w w2 from ⟨HB1.out.1.after hb2, ho2.mono HB1.out.2.size, hl2, hm2, HB1.out.2.trans (hb2.mono HB1.out.2.size)⟩); clear ho2 hl2 hm2 hb2))
  have hbx := below_box w2 (.cells #[.int .i64 s.1, .slice A1 n1 c1] 26)
  have HB3 : Hid (Blk (w2.alloc (.cells #[.int .i64 s.1, .slice A1 n1 c1] 26)) w.heap.size 32 x.cells ∧ OwnM (w2.alloc (.cells #[.int .i64 s.1, .slice A1 n1 c1] 26)) w.heap.size (.slice A1 n1 c1) l1 ∧ l1.length = n1 ∧ l1.map (·.1) = s.2 ∧ Below w.heap.size w (w2.alloc (.cells #[.int .i64 s.1, .slice A1 n1 c1] 26)) ∧ Blk (w2.alloc (.cells #[.int .i64 s.1, .slice A1 n1 c1] 26)) w2.heap.size 26 #[.int .i64 s.1, .slice A1 n1 c1]) := Lib.hid ⟨HB2.out.1.after hbx, HB2.out.2.1.after hbx, HB2.out.2.2.1, HB2.out.2.2.2.1, HB2.out.2.2.2.2.trans (hbx.mono HB2.out.2.2.2.2.size), Blk.new _ _ _⟩
  clear hbx HB2 HB1
  generalize w2.alloc (.cells #[.int .i64 s.1, .slice A1 n1 c1] 26) = X3 at HB3 ⊢
  generalize w2.heap.size = g5 at HB3 ⊢
  have HN3 : Hid (NodesIn X3 0 X3.heap.size A1 n1 c1 s.2) := Lib.hid (by rw [← HB3.out.2.2.2.1]; exact (HB3.out.2.1.nodesIn HB3.out.2.2.1).mono (Nat.zero_le _) (Nat.le_refl _))
  have m0 := (HB3.out.2.2.2.2.2.cell 0).trans (show _ = some (.int .i64 s.1) from rfl)
  have m1 := (HB3.out.2.2.2.2.2.cell 1).trans (show _ = some (.slice A1 n1 c1) from rfl)
  go_upto_region 5 with (go_at_call 26; (with_reducible refine (HTw.out _ s _ _ _ HOk.out HN3.out).mono ?_); go_must (rintro e w4 ⟨A4, n4, c4, l4, rfl, ho4, hl4, hm4, hb4⟩; have hbx := below_box w4 (.cells #[.int .i64 s.1, .slice A4 n4 c4] 26); have HF : Hid (F5 w x.cells s.1 s.2 g5 w4.heap.size A1 n1 c1 l1 A4 n4 c4 l4 (w4.alloc (.cells #[.int .i64 s.1, .slice A4 n4 c4] 26))) := Lib.hid ⟨(HB3.out.1.after hb4).after hbx, (HB3.out.2.2.2.2.2.after hb4).after hbx, Blk.new _ _ _, (HB3.out.2.1.after hb4).after hbx, HB3.out.2.2.1, HB3.out.2.2.2.1, (ho4.mono HB3.out.2.2.2.2.1.size).after hbx, hl4, hm4, (HB3.out.2.2.2.2.1.trans (hb4.mono HB3.out.2.2.2.2.1.size)).trans (hbx.mono (Nat.le_trans HB3.out.2.2.2.2.1.size hb4.size))⟩; clear ho4 hl4 hm4 hb4 hbx))
  generalize w4.alloc (.cells #[.int .i64 s.1, .slice A4 n4 c4] 26) = X5 at HF ⊢
  generalize w4.heap.size = g6 at HF ⊢
  clear m0 m1 HB3 HN3
  have m0 := (HF.out.m.cell 0).trans (show _ = some (.int .i64 s.1) from rfl)
  have m1 := (HF.out.m.cell 1).trans (show _ = some (.slice A1 n1 c1) from rfl)
  have a0 := (HF.out.a.cell 0).trans (show _ = some (.int .i64 x.kind) from rfl)
  have a1 := (HF.out.a.cell 1).trans (show _ = some (.int .i64 x.a) from rfl)
  have a2 := (HF.out.a.cell 2).trans (show _ = some (.int .i64 x.b) from rfl)
  have a3 := (HF.out.a.cell 3).trans (show _ = some (.int .i64 x.at_) from rfl)
  have a4 := (HF.out.a.cell 4).trans (show _ = some (.string x.word) from rfl)
  have a5 := (HF.out.a.cell 5).trans (show _ = some (.string x.text) from rfl)
  go_upto_region 6 with (go_at_call 9; (with_reducible refine (HDn.out _ _ _ _ HF.out.nm).mono ?_); go_must (rintro e w6 ⟨A6, n6, c6, rfl, hb6, hn6, ho6⟩; have HB6 := Lib.hid hb6; have HN6 := Lib.hid hn6; have HO6 := Lib.hid ho6; clear hb6 hn6 ho6))
  clear m0 m1 a0 a1 a2 a3 a4 a5
  have HB7 : Hid (Blk (w6.alloc (.cells #[.int .i64 q.1, .slice A6 n6 c6] 26)) w6.heap.size 26 #[.int .i64 q.1, .slice A6 n6 c6] ∧ Below w6.heap.size w6 (w6.alloc (.cells #[.int .i64 q.1, .slice A6 n6 c6] 26))) := Lib.hid ⟨Blk.new _ _ _, below_box _ _⟩
  generalize w6.alloc (.cells #[.int .i64 q.1, .slice A6 n6 c6] 26) = X7 at HB7 ⊢
  obtain ⟨g7, hg7⟩ : ∃ g7, g7 = w6.heap.size := ⟨_, rfl⟩
  rw [← hg7] at HB7 ⊢
  have HG7 := Lib.hid hg7
  clear hg7
  have m0 := (HB7.out.1.cell 0).trans (show _ = some (.int .i64 q.1) from rfl)
  have m1 := (HB7.out.1.cell 1).trans (show _ = some (.slice A6 n6 c6) from rfl)
  have HN7 : Hid (NodesIn X7 0 X7.heap.size A6 n6 c6 q.2) := Lib.hid (by have hb := HG7.out ▸ HB7.out.2; exact (HN6.out.below hb).mono (Nat.le_refl _) hb.size)
  go_upto_region 7 with (go_at_call 26; (with_reducible refine (HTw.out _ q _ _ _ HOk2.out HN7.out).mono ?_); go_must (rintro e w8 ⟨A8, n8, c8, l8, rfl, ho8, hl8, hm8, hb8⟩; have hbx := below_box w8 (.cells #[.int .i64 q.1, .slice A8 n8 c8] 26); have hb7 := HG7.out ▸ HB7.out.2; have H9 : Hid (F9 g7 q.1 q.2 g7 w8.heap.size A6 n6 c6 A8 n8 c8 l8 (w8.alloc (.cells #[.int .i64 q.1, .slice A8 n8 c8] 26)) ∧ Below w6.heap.size w6 (w8.alloc (.cells #[.int .i64 q.1, .slice A8 n8 c8] 26))) := Lib.hid ⟨⟨(HB7.out.1.after hb8).after hbx, Blk.new _ _ _, Nat.le_refl _, HG7.out ▸ Nat.le_trans hb7.size hb8.size, (ho8.mono (HG7.out ▸ hb7.size)).after hbx, hl8, hm8⟩, (hb7.trans (hb8.mono hb7.size)).trans (hbx.mono (Nat.le_trans hb7.size hb8.size))⟩; clear ho8 hl8 hm8 hb8 hbx hb7))
  generalize w8.alloc (.cells #[.int .i64 q.1, .slice A8 n8 c8] 26) = X9 at H9 ⊢
  generalize w8.heap.size = g9 at H9 ⊢
  clear m0 m1 HB7 HN7
  have HB9 : Hid (Below X5.heap.size X5 X9) := Lib.hid (HB6.out.trans (H9.out.2.mono HB6.out.size))
  have HFz : Hid (F5 w x.cells s.1 s.2 g5 g6 A1 n1 c1 l1 A4 n4 c4 l4 X9) := Lib.hid (HF.out.after HB9.out)
  have m0 := (H9.out.1.m.cell 0).trans (show _ = some (.int .i64 q.1) from rfl)
  have m1 := (H9.out.1.m.cell 1).trans (show _ = some (.slice A6 n6 c6) from rfl)
  by_cases he : er = 0
  · have heb : (er == 0) = true := by rw [beq_iff_eq]; exact he
    obtain ⟨l6, ho6, hl6⟩ := HO6.out he
    have HSp : Hid (Calls Tryz.prog 27 #[.agg #[.int .i64 q.1, .slice A6 n6 c6]] X9 fun e w' => e = .returned (.tuple #[]) ∧ Below X5.heap.size X9 w' ∧ KH w6.heap.size X9 w') := Lib.hid (by
      have ho9 := ho6.after H9.out.2
      exact spoil_keep w6.heap.size X9 X5.heap.size q.1 A6 n6 c6 l6 ho9.own hl6 (fun p hp => (ho9.leaf p hp).spL) HB9.out.size (fun p hp => ho6.ltL p hp) (fun g e => by have h6 := ho6.own; subst e; unfold OwnN at h6; rw [hl6] at h6; exact own_ltH h6) H9.out.2.size)
    clear ho6 hl6 he
    go_upto_region 9 with (go_at_call 27; (with_reducible refine HSp.out.mono ?_); go_must (rintro e Wz ⟨rfl, hsb, hsk⟩; replace HFz := Lib.hid (HF.out.after (HB9.out.trans hsb)); have HZ9 := Lib.hid (H9.out.1.kh (HG7.out ▸ hsk)); clear hsb hsk))
    clear m0 m1 H9 HSp
    have m0 := (HFz.out.m.cell 0).trans (show _ = some (.int .i64 s.1) from rfl)
    have m1 := (HFz.out.m.cell 1).trans (show _ = some (.slice A1 n1 c1) from rfl)
    have a0 := (HFz.out.a.cell 0).trans (show _ = some (.int .i64 x.kind) from rfl)
    have a1 := (HFz.out.a.cell 1).trans (show _ = some (.int .i64 x.a) from rfl)
    have a2 := (HFz.out.a.cell 2).trans (show _ = some (.int .i64 x.b) from rfl)
    have a3 := (HFz.out.a.cell 3).trans (show _ = some (.int .i64 x.at_) from rfl)
    have a4 := (HFz.out.a.cell 4).trans (show _ = some (.string x.word) from rfl)
    have a5 := (HFz.out.a.cell 5).trans (show _ = some (.string x.text) from rfl)
    go_upto_region 10 with (go_at_call 9; (with_reducible refine (HDn.out _ _ _ _ HFz.out.nm).mono ?_); go_must (rintro e wd ⟨Ad, nd, cd, rfl, hbd, hnd, hod⟩; have hbx := below_box wd (.cells #[.int .i64 q.1, .slice Ad nd cd] 26); have HFy := Lib.hid ((HFz.out.after hbd).after hbx); have HZy := Lib.hid ((HZ9.out.after hbd).after hbx); have HNy : Hid (NodesIn (wd.alloc (.cells #[.int .i64 q.1, .slice Ad nd cd] 26)) 0 (wd.alloc (.cells #[.int .i64 q.1, .slice Ad nd cd] 26)).heap.size Ad nd cd q.2 ∧ Blk (wd.alloc (.cells #[.int .i64 q.1, .slice Ad nd cd] 26)) wd.heap.size 26 #[.int .i64 q.1, .slice Ad nd cd]) := Lib.hid ⟨(hnd.below hbx).mono (Nat.le_refl _) hbx.size, Blk.new _ _ _⟩; clear hbd hnd hod hbx))
    clear m0 m1 a0 a1 a2 a3 a4 a5
    generalize wd.alloc (.cells #[.int .i64 q.1, .slice Ad nd cd] 26) = Xb at HFy HZy HNy ⊢
    generalize wd.heap.size = gb at HNy ⊢
    have m0 := (HFy.out.m.cell 0).trans (show _ = some (.int .i64 s.1) from rfl)
    have m1 := (HFy.out.m.cell 1).trans (show _ = some (.slice A1 n1 c1) from rfl)
    have t0 := (HFy.out.t.cell 0).trans (show _ = some (.int .i64 s.1) from rfl)
    have t1 := (HFy.out.t.cell 1).trans (show _ = some (.slice A4 n4 c4) from rfl)
    have hee : (er == er) = true := by simp
    go_wp2_with (first | (go_at_call 20; (with_reducible refine (HSa.out _ s _ _ _ _ _ _ HFy.out.nm HFy.out.nt).mono ?_); go_must (rintro e we ⟨rfl, hbe⟩; have y0 := ((HNy.out.2.after hbe).cell 0).trans (show _ = some (.int .i64 q.1) from rfl); have y1 := ((HNy.out.2.after hbe).cell 1).trans (show _ = some (.slice Ad nd cd) from rfl); have z0 := ((HZy.out.after hbe).t.cell 0).trans (show _ = some (.int .i64 q.1) from rfl); have z1 := ((HZy.out.after hbe).t.cell 1).trans (show _ = some (.slice A8 n8 c8) from rfl); have HNe := Lib.hid ((HNy.out.1.below hbe).mono (Nat.le_refl _) hbe.size); have HTe := Lib.hid (HZy.out.after hbe).nt; have HBe := Lib.hid (HFy.out.after hbe).bel; clear hbe)) | (go_at_call 20; (with_reducible refine (HSa.out _ q _ _ _ _ _ _ HNe.out HTe.out).mono ?_); go_must (rintro e wf ⟨rfl, hbf⟩; have HBf := Lib.hid (HBe.out.trans (hbf.mono HBe.out.size)); clear hbf)))
    go_ret
    exact ret_b (by simp) rfl HBf.out
  · have heb : (er == 0) = false := by rw [beq_eq_false_iff_ne]; exact he
    have HZ9 := Lib.hid H9.out.1
    clear he H9 m0 m1
    go_upto_region 9 with (fail)
    rename World => Wz
    have m0 := (HFz.out.m.cell 0).trans (show _ = some (.int .i64 s.1) from rfl)
    have m1 := (HFz.out.m.cell 1).trans (show _ = some (.slice A1 n1 c1) from rfl)
    have a0 := (HFz.out.a.cell 0).trans (show _ = some (.int .i64 x.kind) from rfl)
    have a1 := (HFz.out.a.cell 1).trans (show _ = some (.int .i64 x.a) from rfl)
    have a2 := (HFz.out.a.cell 2).trans (show _ = some (.int .i64 x.b) from rfl)
    have a3 := (HFz.out.a.cell 3).trans (show _ = some (.int .i64 x.at_) from rfl)
    have a4 := (HFz.out.a.cell 4).trans (show _ = some (.string x.word) from rfl)
    have a5 := (HFz.out.a.cell 5).trans (show _ = some (.string x.text) from rfl)
    go_upto_region 10 with (go_at_call 9; (with_reducible refine (HDn.out _ _ _ _ HFz.out.nm).mono ?_); go_must (rintro e wd ⟨Ad, nd, cd, rfl, hbd, hnd, hod⟩; have hbx := below_box wd (.cells #[.int .i64 q.1, .slice Ad nd cd] 26); have HFy := Lib.hid ((HFz.out.after hbd).after hbx); have HZy := Lib.hid ((HZ9.out.after hbd).after hbx); have HNy : Hid (NodesIn (wd.alloc (.cells #[.int .i64 q.1, .slice Ad nd cd] 26)) 0 (wd.alloc (.cells #[.int .i64 q.1, .slice Ad nd cd] 26)).heap.size Ad nd cd q.2 ∧ Blk (wd.alloc (.cells #[.int .i64 q.1, .slice Ad nd cd] 26)) wd.heap.size 26 #[.int .i64 q.1, .slice Ad nd cd]) := Lib.hid ⟨(hnd.below hbx).mono (Nat.le_refl _) hbx.size, Blk.new _ _ _⟩; clear hbd hnd hod hbx))
    clear m0 m1 a0 a1 a2 a3 a4 a5
    generalize wd.alloc (.cells #[.int .i64 q.1, .slice Ad nd cd] 26) = Xb at HFy HZy HNy ⊢
    generalize wd.heap.size = gb at HNy ⊢
    have m0 := (HFy.out.m.cell 0).trans (show _ = some (.int .i64 s.1) from rfl)
    have m1 := (HFy.out.m.cell 1).trans (show _ = some (.slice A1 n1 c1) from rfl)
    have t0 := (HFy.out.t.cell 0).trans (show _ = some (.int .i64 s.1) from rfl)
    have t1 := (HFy.out.t.cell 1).trans (show _ = some (.slice A4 n4 c4) from rfl)
    have hee : (er == er) = true := by simp
    go_wp2_with (first | (go_at_call 20; (with_reducible refine (HSa.out _ s _ _ _ _ _ _ HFy.out.nm HFy.out.nt).mono ?_); go_must (rintro e we ⟨rfl, hbe⟩; have y0 := ((HNy.out.2.after hbe).cell 0).trans (show _ = some (.int .i64 q.1) from rfl); have y1 := ((HNy.out.2.after hbe).cell 1).trans (show _ = some (.slice Ad nd cd) from rfl); have z0 := ((HZy.out.after hbe).t.cell 0).trans (show _ = some (.int .i64 q.1) from rfl); have z1 := ((HZy.out.after hbe).t.cell 1).trans (show _ = some (.slice A8 n8 c8) from rfl); have HNe := Lib.hid ((HNy.out.1.below hbe).mono (Nat.le_refl _) hbe.size); have HTe := Lib.hid (HZy.out.after hbe).nt; have HBe := Lib.hid (HFy.out.after hbe).bel; clear hbe)) | (go_at_call 20; (with_reducible refine (HSa.out _ q _ _ _ _ _ _ HNe.out HTe.out).mono ?_); go_must (rintro e wf ⟨rfl, hbf⟩; have HBf := Lib.hid (HBe.out.trans (hbf.mono HBe.out.size)); clear hbf)))
    go_ret
    exact ret_b (by simp) rfl HBf.out
end Go.Proofs.YtohinklkcinjpaaGreat
namespace Go.Proofs.YtohinklkcinjpaaGreat
open Go Go.RowKit Go.Sort Go.ChangeShapes Go.WideShapes Go.Deep Go.Joins
set_option linter.unusedVariables false
theorem cell_spot {w : World} {a : Addr} {u : Value} (h : w.cell? a = some u) : a.spot = none := by
  unfold World.cell? at h
  split at h
  · split at h
    · cases h
    · rename_i hs
      cases ha : a.spot with
      | none => rfl
      | some k => rw [ha] at hs; simp at hs
  · cases h
theorem add_zero_ (a : Addr) : a.add 0 = a := by unfold Addr.add; simp
theorem addr_plain {a : Addr} (h : a.spot = none) : a = ⟨a.block, a.off, none⟩ := by
  obtain ⟨b, o, s⟩ := a
  obtain rfl : s = none := h
  rfl
/-- cells of an own kind, by the elements' index -/
theorem flat_cells {α : Type} {w : World} {f : α → List Value} {s : Nat} (hs : ∀ a, (f a).length = s) (h0 : 0 < s) (l : List α) (a : Addr)
    (h : ∀ i p, l[i]? = some p → ∀ r u, (f p)[r]? = some u → w.cell? (a.add (i * s + r)) = some u) : ∀ j u, (l.flatMap f)[j]? = some u → w.cell? (a.add j) = some u := by
  intro j u hj
  have hl : j < l.length * s := by rw [← flatN_len hs l]; exact (List.getElem?_eq_some_iff.1 hj).1
  have hd : j / s < l.length := Nat.div_lt_of_lt_mul (by rwa [Nat.mul_comm] at hl)
  have hr : j % s < s := Nat.mod_lt _ h0
  have he : j / s * s + j % s = j := by rw [Nat.mul_comm]; exact Nat.div_add_mod j s
  have hp : l[j / s]? = some l[j / s] := List.getElem?_eq_getElem hd
  have := h (j / s) _ hp (j % s) u (by rw [← flatN_get hs l (j / s) _ hp _ hr, he]; exact hj)
  rwa [he] at this
theorem row_of {w : World} {base n c size : Nat} {a : Addr} {xs : List Value} (hlen : xs.length = n * size) (h0 : 0 < size) (hn : n ≤ c) (hm : c ≤ maxLen) (hb : base ≤ a.block)
    (hc : ∀ j u, xs[j]? = some u → w.cell? (a.add j) = some u) : Row w base w.heap.size size (some a) n c xs := by
  refine ⟨hlen, hn, hm, fun hp => ?_⟩
  have hl : 0 < xs.length := by rw [hlen]; exact Nat.mul_pos hp h0
  have h1 := hc 0 _ (List.getElem?_eq_getElem hl)
  rw [add_zero_] at h1
  have ha := addr_plain (cell_spot h1)
  have hlt := block_lt_of_cell h1
  refine ⟨a.block, a.off, by rw [← ha], hb, hlt, fun j u hu => ?_⟩
  · have := hc j u hu
    rw [ha, Addr.add_lit] at this; exact this
section
variable {H : Type}
end
section
variable {H : Type} {enc : TypeId × Value → H} {w : World} {base : Nat} {spare : Nat → Bool} {held : Bool}
theorem spare_le {spare : Nat → Bool} {b len cap m : Nat} (hl : len ≤ cap) (hm : m = (if spare b then cap else len)) : len ≤ m := by rw [hm]; split <;> omega
instance ndLeafInhabited : Inhabited (Nd × Leaf) := ⟨(⟨0, ByteArray.empty, 0, ByteArray.empty, [], [], []⟩, ⟨⟨none, 0, 0⟩, ⟨none, 0, 0⟩, ⟨none, 0, 0⟩⟩)⟩
end
section
variable {H : Type} {enc : TypeId × Value → H} {P : Program}
/-- what the row asks behind the call, where all that was there before lies as it lay: the same readings again -/
theorem post_read {f : Func} {s : ChangeSpec} {W W' : World} {args : Array Value} {v : Value} {ds gs : List (DataW H)} {before q : List MemPlace} (hW : DataW.Whole enc P f.params.toList s.vars false W args.toList ds gs before)
    (hres : DataW.TrodAll enc P W' W.heap.size (fun _ => false) false f.resultTypes.toList (v.resultList f.resultTypes.size) (s.fn H (ds ++ gs)).results [])
    (hargs : DataW.TrodAll enc P W' 0 (fun b => decide (b < W.heap.size)) true f.params.toList args.toList (s.fn H (ds ++ gs)).args q)
    (hvars : DataW.TrodVars enc P W' (fun b => decide (b < W.heap.size)) s.vars (s.fn H (ds ++ gs)).vars []) (hb : Below W.heap.size W W') :
    s.post enc P f false true false false W args v W' :=
  ⟨ds, gs, before, [], q, [], hW, hres, hargs, hvars, hb.frame _, fun h => by cases h⟩
end
end Go.Proofs.YtohinklkcinjpaaGreat

/-
  WALKS: awake: the chapter's first rows.
  WALKS: what is answered is new memory.
  PLAIN: document order: every node stands behind its parent; marks by number.
  WALKS: sorted: a model, told but for the order of its kids.
  PLAIN: what is added and taken away again, and what is moved away and back.
  PLAIN: a node that was moved away comes back.
-/
import Derived.Test.YtbkmdlfenbfdlaaGreatZC25
import Derived.WalkSpells
import Derived.WalkLawsBesides
import Derived.Lib.AppendStr
import Derived.Lib.BufferRead
import Derived.IntWalk
namespace Go.Proofs.YtbkmdlfenbfdlaaGreat
open Go Go.RowKit Go.Sort
set_option linter.unusedVariables false
attribute [local go_sem ↓] Go.wp_at_zero Go.wp_at_succ
/-- a box with a model of the call's own -/
structure BM (w : World) (gm : Nat) (next : Int) (nds : List Nd) (A : Option Addr) (n c : Nat) (l : List (Nd × Leaf)) (X : World) : Prop where
  m : Blk X gm 26 #[.int .i64 next, .slice A n c]
  own : OwnM X w.heap.size (.slice A n c) l
  len : l.length = n
  map_ : l.map (·.1) = nds
  bel : Below w.heap.size w X
  le : w.heap.size ≤ gm
section
variable {w X X' : World} {gm : Nat} {next : Int} {nds : List Nd} {A : Option Addr} {n c : Nat} {l : List (Nd × Leaf)}
theorem BM.after (h : BM w gm next nds A n c l X) (hb : Below X.heap.size X X') : BM w gm next nds A n c l X' := ⟨h.m.after hb, h.own.after hb, h.len, h.map_, h.bel.trans (hb.mono h.bel.size), h.le⟩
theorem BM.nodes (h : BM w gm next nds A n c l X) : NodesIn X 0 X.heap.size A n c nds := by
  rw [← h.map_]
  exact (h.own.nodesIn h.len).mono (Nat.zero_le _) (Nat.le_refl _)
theorem BM.set (h : BM w gm next nds A n c l X) {next' : Int} {nds' : List Nd} {A' : Option Addr} {n' c' : Nat} {l' : List (Nd × Leaf)} (ho : OwnM X w.heap.size (.slice A' n' c') l') (hl : l'.length = n') (hm : l'.map (·.1) = nds') :
    BM w gm next' nds' A' n' c' l' ((X.setCell ⟨gm, 0, none⟩ (.int .i64 next')).setCell ⟨gm, 1, none⟩ (.slice A' n' c')) := by
  have hle := h.le
  refine ⟨?_, (ho.other h.m 0 _).other (h.m.set_ 0 _) 1 _, hl, hm, (h.bel.setCell (p := ⟨gm, 0, none⟩) hle _).setCell (p := ⟨gm, 1, none⟩) hle _, hle⟩
  simpa using (h.m.set_ 0 (.int .i64 next')).set_ 1 (.slice A' n' c')
end
theorem aw_added {w w' : World} {next : Int} {nds nds' : List Nd} {parent at_ : Int} {role con : ByteArray} {e : Ending} (h : AddPost w next nds parent role at_ con e w') (h0 : addE next nds parent role at_ con = 0) (hl : addL next nds parent role con (admV next nds parent role at_ 1 1).1.toNat = nds') :
    ∃ (A : Option Addr) (n c : Nat) (l : List (Nd × Leaf)), e = .returned (.tuple #[.agg #[.int .i64 (next + 1), .slice A n c], .int .i64 next, .int .i64 0]) ∧ OwnM w' w.heap.size (.slice A n c) l ∧ l.length = n ∧ l.map (·.1) = nds' ∧ Below w.heap.size w w' := by
  obtain ⟨hb, ⟨h1, he⟩ | ⟨h1, A, c, l, he, ho, hm⟩⟩ := h
  · exact absurd h0 h1
  · refine ⟨A, _, c, l, he, ho, ?_, hm.trans hl, hb⟩
    have h1 := congrArg List.length hm
    rw [List.length_map] at h1
    rw [h1]
    unfold addL
    split <;> simp
theorem aw_fit (k : Nat) (hk : k ≤ 4) : ∀ nd ∈ awS k, Fits 1 nd := fun nd hnd => by
  have := aw_fits k hk nd hnd
  exact ⟨by omega, by omega, by omega⟩
/-- the three lists of awake -/
structure AwL (gs : Nat) (X : World) : Prop where
  c : Blk X gs 9 #[.string ⟨#[78, 117, 109]⟩, .string ⟨#[84, 101, 120, 116]⟩, .string ⟨#[83, 117, 109]⟩, .string ⟨#[78, 117, 109]⟩]
  r : Blk X (gs + 1) 9 #[.string ⟨#[105, 116, 101, 109]⟩, .string ⟨#[110, 111, 116, 101]⟩, .string ⟨#[105, 116, 101, 109]⟩, .string ⟨#[105, 116, 101, 109]⟩]
  p : Blk X (gs + 1 + 1) 3 #[.int .i64 0, .int .i64 0, .int .i64 1, .int .i64 0]
theorem AwL.after {gs : Nat} {X X' : World} (h : AwL gs X) (hb : Below X.heap.size X X') : AwL gs X' := ⟨h.c.after hb, h.r.after hb, h.p.after hb⟩
theorem AwL.far {gs g : Nat} {X : World} {cs : Array Value} (h : AwL gs X) (hg : Blk X g 26 cs) (i : Nat) (u : Value) : AwL gs (X.setCell ⟨g, i, none⟩ u) :=
  ⟨h.c.far (p := ⟨g, i, none⟩) (h.c.ne_ hg (by decide)) u, h.r.far (p := ⟨g, i, none⟩) (h.r.ne_ hg (by decide)) u, h.p.far (p := ⟨g, i, none⟩) (h.p.ne_ hg (by decide)) u⟩
theorem AwL.at_ {gs : Nat} {X : World} (h : AwL gs X) {k : Nat} (hk : k < 4) : X.cell? ⟨gs, k, none⟩ = some (.string (awC k)) ∧ X.cell? ⟨gs + 1, k, none⟩ = some (.string (awR k)) ∧ X.cell? ⟨gs + 1 + 1, k, none⟩ = some (.int .i64 (awP k)) := by
  match k, hk with
  | 0, _ => exact ⟨h.c.cell 0, h.r.cell 0, h.p.cell 0⟩
  | 1, _ => exact ⟨h.c.cell 1, h.r.cell 1, h.p.cell 1⟩
  | 2, _ => exact ⟨h.c.cell 2, h.r.cell 2, h.p.cell 2⟩
  | 3, _ => exact ⟨h.c.cell 3, h.r.cell 3, h.p.cell 3⟩
theorem ints_lit {X : World} {B : Nat} {Ax : Option Addr} {n cx : Nat} {l : List Int} {o : Array Value} (h : X.ownsRow B 3 1 (.slice Ax n cx) n (intCells l)) (hl : l.length = n) (ho : o = (intCells l).toArray) (hn : n ≤ maxLen) :
    Calls Tryz.prog 22 #[.slice Ax n cx, .slice (some ⟨X.heap.size, 0, none⟩) n n] (X.alloc (.cells o 3)) (Ret (X.alloc (.cells o 3)) (.bool true)) := by
  have hb := below_box X (.cells o 3)
  have h1 := own_row (own_after h hb)
  have h2 : IBlk (X.alloc (.cells o 3)) X.heap.size l := by subst ho; exact Blk.new _ _ _
  have := drew_ret (refInts_any _ _ _ 0 (X.alloc (.cells o 3)).heap.size Ax (some ⟨X.heap.size, 0, none⟩) n cx n n l l h1 (h2.row hl (Nat.le_refl _) hn (Nat.zero_le _) (by simp)))
  rwa [eqL_refl intE_refl] at this
theorem aw_sz (k : Nat) : (awC k).size ≤ maxLen ∧ (awR k).size ≤ maxLen := by
  match k with
  | 0 => decide
  | 1 => decide
  | 2 => decide
  | k + 3 => exact ⟨by show sNum.size ≤ maxLen; decide, by show sItem.size ≤ maxLen; decide⟩
set_option maxRecDepth 20000 in
set_option maxHeartbeats 1600000 in
theorem awake_any (w : World) : Calls Tryz.prog 7 #[] w (Ret w (.bool true)) := by
  have HAd1 : Hid (∀ X, Calls Tryz.prog 18 #[.agg #[.int .i64 1, .slice none 0 0], .int .i64 0, .string ⟨#[]⟩, .int .i64 0, .string ⟨#[76, 105, 115, 116]⟩] X fun e w' => ∃ (A : Option Addr) (n c : Nat) (l : List (Nd × Leaf)), e = .returned (.tuple #[.agg #[.int .i64 2, .slice A n c], .int .i64 1, .int .i64 0]) ∧ OwnM w' X.heap.size (.slice A n c) l ∧ l.length = n ∧ l.map (·.1) = awS 0 ∧ Below X.heap.size X w') := Lib.hid fun X => (add_any X 0 1 0 0 ⟨#[]⟩ sList none 0 0 [] (NodesIn.nil _ _ _) (Nat.zero_le _) (by decide) (by decide) (by simp)).mono fun e w' he => aw_added he aw_first.1 aw_first.2
  go_enter Tryz.func7, Tryz.ntmps7
  go_upto_region 2 with (first | (go_at_call 8; (with_reducible refine (new_any _).mono ?_); go_must (rintro e w1 ⟨rfl, hb1⟩; have HB1 := Lib.hid hb1; clear hb1)) | (go_at_call 18; (with_reducible refine (HAd1.out _).mono ?_); go_must (rintro e w2 ⟨A0, n0, c0, l0, rfl, ho2, hl2, hm2, hb2⟩; have HX : Hid (BM w w2.heap.size 2 (awS 0) A0 n0 c0 l0 (w2.alloc (.cells #[.int .i64 2, .slice A0 n0 c0] 26))) := Lib.hid ⟨Blk.new _ _ _, (ho2.mono HB1.out.size).after (below_box _ _), hl2, hm2, (HB1.out.trans (hb2.mono HB1.out.size)).trans ((below_box _ _).mono (Nat.le_trans HB1.out.size hb2.size)), Nat.le_trans HB1.out.size hb2.size⟩; clear ho2 hl2 hm2 hb2 HB1)))
  generalize w2.alloc (.cells #[.int .i64 2, .slice A0 n0 c0] 26) = X2 at HX ⊢
  generalize w2.heap.size = gm at HX ⊢
  have m0 := (HX.out.m.cell 0).trans (show _ = some (.int .i64 2) from rfl)
  have HL0 : Hid (AwL X2.heap.size (((X2.alloc (.cells #[.string ⟨#[78, 117, 109]⟩, .string ⟨#[84, 101, 120, 116]⟩, .string ⟨#[83, 117, 109]⟩, .string ⟨#[78, 117, 109]⟩] 9)).alloc (.cells #[.string ⟨#[105, 116, 101, 109]⟩, .string ⟨#[110, 111, 116, 101]⟩, .string ⟨#[105, 116, 101, 109]⟩, .string ⟨#[105, 116, 101, 109]⟩] 9)).alloc (.cells #[.int .i64 0, .int .i64 0, .int .i64 1, .int .i64 0] 3)) ∧ Below X2.heap.size X2 (((X2.alloc (.cells #[.string ⟨#[78, 117, 109]⟩, .string ⟨#[84, 101, 120, 116]⟩, .string ⟨#[83, 117, 109]⟩, .string ⟨#[78, 117, 109]⟩] 9)).alloc (.cells #[.string ⟨#[105, 116, 101, 109]⟩, .string ⟨#[110, 111, 116, 101]⟩, .string ⟨#[105, 116, 101, 109]⟩, .string ⟨#[105, 116, 101, 109]⟩] 9)).alloc (.cells #[.int .i64 0, .int .i64 0, .int .i64 1, .int .i64 0] 3))) := Lib.hid ⟨⟨((Blk.new _ _ _).alloc _).alloc _, (Blk.new' (by simp)).alloc _, Blk.new' (by simp)⟩, below_more (below_more (below_more (Below.refl _ _) _) _) _⟩
  go_upto_region 5 with (fail)
  replace HX := Lib.hid (HX.out.after HL0.out.2)
  replace HL0 := Lib.hid HL0.out.1
  generalize ((X2.alloc (.cells #[.string ⟨#[78, 117, 109]⟩, .string ⟨#[84, 101, 120, 116]⟩, .string ⟨#[83, 117, 109]⟩, .string ⟨#[78, 117, 109]⟩] 9)).alloc (.cells #[.string ⟨#[105, 116, 101, 109]⟩, .string ⟨#[110, 111, 116, 101]⟩, .string ⟨#[105, 116, 101, 109]⟩, .string ⟨#[105, 116, 101, 109]⟩] 9)).alloc (.cells #[.int .i64 0, .int .i64 0, .int .i64 1, .int .i64 0] 3) = X3 at HX HL0 ⊢
  generalize X2.heap.size = gs at HL0 ⊢
  clear m0 HAd1
  go_wp2_with fail
  go_loopw [2, 3, 7] (fun v2 v3 v7 wr => ∃ (k : Nat) (A : Option Addr) (n c : Nat) (l : List (Nd × Leaf)), k ≤ 4 ∧ v2 = .int .i64 (k + 1) ∧ v3 = .int .i64 0 ∧ v7 = .int .i64 k ∧ Hid (BM w gm (k + 2) (awS k) A n c l wr) ∧ Hid (AwL gs wr)) (fun _ _ v _ => 4 - (intOf v).toNat)
  case atStart => exact ⟨0, A0, n0, c0, l0, Nat.zero_le _, rfl, rfl, rfl, HX, HL0⟩
  case round =>
    clear HX HL0
    obtain ⟨k, A, n, c, l, hk4, rfl, rfl, rfl, HX, HL⟩ := hrel
    rename World => wr
    by_cases hk : k < 4
    · have HSof : Hid (∀ X, AwL gs X → X.cell? ⟨gs, k, none⟩ = some (.string (awC k)) ∧ X.cell? ⟨gs + 1, k, none⟩ = some (.string (awR k)) ∧ X.cell? ⟨gs + 1 + 1, k, none⟩ = some (.int .i64 (awP k))) := Lib.hid fun X hX => hX.at_ hk
      have HAd : Hid (∀ Y, BM w gm (k + 2) (awS k) A n c l Y → Calls Tryz.prog 18 #[.agg #[.int .i64 (k + 2), .slice A n c], .int .i64 1, .string (awR k), .int .i64 (awP k), .string (awC k)] Y fun e w' => ∃ (A : Option Addr) (n c : Nat) (l : List (Nd × Leaf)), e = .returned (.tuple #[.agg #[.int .i64 ((k : Int) + 2 + 1), .slice A n c], .int .i64 ((k : Int) + 2), .int .i64 0]) ∧ OwnM w' Y.heap.size (.slice A n c) l ∧ l.length = n ∧ l.map (·.1) = awS (k + 1) ∧ Below Y.heap.size Y w') := Lib.hid fun Y hY => (add_any Y Y.heap.size (k + 2) 1 (awP k) (awR k) (awC k) A n c (awS k) hY.nodes (Nat.le_refl _) (aw_sz k).2 (aw_sz k).1 (aw_fit k hk4)).mono fun e w' he => aw_added he (aw_step k hk).1 (aw_step k hk).2
      go_upto_region 8 with (fail)
      replace HX := Lib.hid (HX.out.after (below_drew1 _))
      replace HL := Lib.hid (HL.out.after (below_drew1 _))
      refine wp_region_held (S := fun w' => w'.cell? ⟨gs, k, none⟩ = some (.string (awC k)) ∧ w'.cell? ⟨gs + 1, k, none⟩ = some (.string (awR k)) ∧ w'.cell? ⟨gs + 1 + 1, k, none⟩ = some (.int .i64 (awP k))) (by kernel_rfl) ?_
      show wpAnyH _ _ _ _ _ 21 (Array.replicate 21 false) _ wr.drew
      generalize wr.drew = wz at HX HL ⊢
      have hHeld : (fun w' => w'.cell? ⟨gs, k, none⟩ = some (.string (awC k)) ∧ w'.cell? ⟨gs + 1, k, none⟩ = some (.string (awR k)) ∧ w'.cell? ⟨gs + 1 + 1, k, none⟩ = some (.int .i64 (awP k))) wz := HSof.out _ HL.out
      have m0 := (HX.out.m.cell 0).trans (show _ = some (.int .i64 (k + 2)) from rfl)
      have m1 := (HX.out.m.cell 1).trans (show _ = some (.slice A n c) from rfl)
      refine wpAnyH_take (i := 1) (v := (.slice (some ⟨gs + 1, 0, none⟩) 4 4)) rfl (by kernel_rfl) (by kernel_rfl) (by kernel_rfl) (fun _ _ _ h => h) (Or.inl ⟨by rfl, ?yt_1⟩) (by assumption) ?qt_1
      case yt_1 => (intro w hSw; (try dsimp only at hSw); go_simp)
      case qt_1 =>
        (try simp only [Act.put]); (try simp only [List.setIfInBounds_toArray])
        refine wpAnyH_take (i := 2) (v := (.int .i64 k)) rfl (by kernel_rfl) (by kernel_rfl) (by kernel_rfl) (fun _ _ _ h => h) (Or.inl ⟨by rfl, ?yt_2⟩) (by assumption) ?qt_2
        case yt_2 => (intro w hSw; (try dsimp only at hSw); go_simp)
        case qt_2 =>
          (try simp only [Act.put]); (try simp only [List.setIfInBounds_toArray])
          refine wpAnyH_take (i := 3) (v := (.pointer (some ⟨gs + 1, k, none⟩))) rfl (by kernel_rfl) (by kernel_rfl) (by kernel_rfl) (fun _ _ _ h => h) (Or.inl ⟨by rfl, ?yt_3⟩) (by assumption) ?qt_3
          case yt_3 => (intro w hSw; (try dsimp only at hSw); go_simp)
          case qt_3 =>
            (try simp only [Act.put]); (try simp only [List.setIfInBounds_toArray])
            refine wpAnyH_take (i := 4) (v := (.string (awR k))) rfl (by kernel_rfl) (by kernel_rfl) (by kernel_rfl) (fun _ _ _ h => h) (Or.inl ⟨by rfl, ?yt_4⟩) (by assumption) ?qt_4
            case yt_4 => (intro w hSw; (try dsimp only at hSw); go_simp)
            case qt_4 =>
              (try simp only [Act.put]); (try simp only [List.setIfInBounds_toArray])
              refine wpAnyH_take (i := 5) (v := (.slice (some ⟨gs + 1 + 1, 0, none⟩) 4 4)) rfl (by kernel_rfl) (by kernel_rfl) (by kernel_rfl) (fun _ _ _ h => h) (Or.inl ⟨by rfl, ?yt_5⟩) (by assumption) ?qt_5
              case yt_5 => (intro w hSw; (try dsimp only at hSw); go_simp)
              case qt_5 =>
                (try simp only [Act.put]); (try simp only [List.setIfInBounds_toArray])
                refine wpAnyH_take (i := 6) (v := (.int .i64 k)) rfl (by kernel_rfl) (by kernel_rfl) (by kernel_rfl) (fun _ _ _ h => h) (Or.inl ⟨by rfl, ?yt_6⟩) (by assumption) ?qt_6
                case yt_6 => (intro w hSw; (try dsimp only at hSw); go_simp)
                case qt_6 =>
                  (try simp only [Act.put]); (try simp only [List.setIfInBounds_toArray])
                  refine wpAnyH_take (i := 7) (v := (.pointer (some ⟨gs + 1 + 1, k, none⟩))) rfl (by kernel_rfl) (by kernel_rfl) (by kernel_rfl) (fun _ _ _ h => h) (Or.inl ⟨by rfl, ?yt_7⟩) (by assumption) ?qt_7
                  case yt_7 => (intro w hSw; (try dsimp only at hSw); go_simp)
                  case qt_7 =>
                    (try simp only [Act.put]); (try simp only [List.setIfInBounds_toArray])
                    refine wpAnyH_take (i := 8) (v := (.int .i64 (awP k))) rfl (by kernel_rfl) (by kernel_rfl) (by kernel_rfl) (fun _ _ _ h => h) (Or.inl ⟨by rfl, ?yt_8⟩) (by assumption) ?qt_8
                    case yt_8 => (intro w hSw; (try dsimp only at hSw); go_simp)
                    case qt_8 =>
                      (try simp only [Act.put]); (try simp only [List.setIfInBounds_toArray])
                      refine wpAnyH_take (i := 9) (v := (.slice (some ⟨gs, 0, none⟩) 4 4)) rfl (by kernel_rfl) (by kernel_rfl) (by kernel_rfl) (fun _ _ _ h => h) (Or.inl ⟨by rfl, ?yt_9⟩) (by assumption) ?qt_9
                      case yt_9 => (intro w hSw; (try dsimp only at hSw); go_simp)
                      case qt_9 =>
                        (try simp only [Act.put]); (try simp only [List.setIfInBounds_toArray])
                        refine wpAnyH_take (i := 10) (v := (.int .i64 k)) rfl (by kernel_rfl) (by kernel_rfl) (by kernel_rfl) (fun _ _ _ h => h) (Or.inl ⟨by rfl, ?yt_10⟩) (by assumption) ?qt_10
                        case yt_10 => (intro w hSw; (try dsimp only at hSw); go_simp)
                        case qt_10 =>
                          (try simp only [Act.put]); (try simp only [List.setIfInBounds_toArray])
                          refine wpAnyH_take (i := 11) (v := (.pointer (some ⟨gs, k, none⟩))) rfl (by kernel_rfl) (by kernel_rfl) (by kernel_rfl) (fun _ _ _ h => h) (Or.inl ⟨by rfl, ?yt_11⟩) (by assumption) ?qt_11
                          case yt_11 => (intro w hSw; (try dsimp only at hSw); go_simp)
                          case qt_11 =>
                            (try simp only [Act.put]); (try simp only [List.setIfInBounds_toArray])
                            refine wpAnyH_take (i := 12) (v := (.string (awC k))) rfl (by kernel_rfl) (by kernel_rfl) (by kernel_rfl) (fun _ _ _ h => h) (Or.inl ⟨by rfl, ?yt_12⟩) (by assumption) ?qt_12
                            case yt_12 => (intro w hSw; (try dsimp only at hSw); go_simp)
                            case qt_12 =>
                              (try simp only [Act.put]); (try simp only [List.setIfInBounds_toArray])
                              refine wpAnyH_ready (rs := [0]) (by kernel_rfl) (by simp) ?_
                              refine AllReadyH.cons rfl (fun K hK => ?st_13) ?mt_13
                              case st_13 =>
                                go_simp
                                refine hK.out _ _ ?kt_13 (fun hHeld => ?qt_13)
                                case kt_13 => ((try dsimp only); first | exact HSof.out _ HL6.out | exact HSof.out _ HL.out)
                                case qt_13 =>
                                  clear hK K
                                  (try simp only [Act.put]); (try simp only [List.setIfInBounds_toArray])
                                  refine wpAnyH_ready (rs := [13]) (by kernel_rfl) (by simp) ?_
                                  refine AllReadyH.cons rfl (fun K hK => ?st_14) ?mt_14
                                  case st_14 =>
                                    (refine step_call _ (by rfl) 18 #[.agg #[.int .i64 (k + 2), .slice A n c], .int .i64 1, .string (awR k), .int .i64 (awP k), .string (awC k)] (by go_simp) (HAd.out _ HX.out) ?_; rintro e w5 ⟨A5, n5, c5, l5, rfl, ho5, hl5, hm5, hb5⟩; refine ⟨_, rfl, ?_⟩; have hX5 := HX.out.after hb5; have hL5 := HL.out.after hb5; have p0 := (hX5.m.cell 0).trans (show _ = some (.int .i64 (k + 2)) from rfl); have p1 := (hX5.m.cell 1).trans (show _ = some (.slice A n c) from rfl); have p2 := hX5.m.frozen 0; have p3 := hX5.m.frozen 1; have HX6 := Lib.hid (hX5.set (next' := (k : Int) + 2 + 1) (ho5.mono HX.out.bel.size) hl5 hm5); have HL6 := Lib.hid ((hL5.far hX5.m 0 (.int .i64 ((k : Int) + 2 + 1))).far (hX5.m.set_ 0 _) 1 (.slice A5 n5 c5)); replace HX := Lib.hid hX5; replace HL := Lib.hid hL5; clear hX5 hL5 ho5 hl5 hm5 hb5 m0 m1)
                                    refine hK.out _ _ ?kt_14 (fun hHeld => ?qt_14)
                                    case kt_14 => ((try dsimp only); first | exact HSof.out _ HL6.out | exact HSof.out _ HL.out)
                                    case qt_14 =>
                                      clear hK K
                                      (try simp only [Act.put]); (try simp only [List.setIfInBounds_toArray])
                                      refine wpAnyH_take (i := 14) (v := (.tuple #[.agg #[.int .i64 ((k : Int) + 2 + 1), .slice A5 n5 c5], .int .i64 ((k : Int) + 2), .int .i64 0])) rfl (by kernel_rfl) (by kernel_rfl) (by kernel_rfl) (fun _ _ _ h => h) (Or.inl ⟨by rfl, ?yt_15⟩) (by assumption) ?qt_15
                                      case yt_15 => (intro w hSw; (try dsimp only at hSw); go_simp)
                                      case qt_15 =>
                                        (try simp only [Act.put]); (try simp only [List.setIfInBounds_toArray])
                                        refine wpAnyH_take (i := 15) (v := (.agg #[.int .i64 ((k : Int) + 2 + 1), .slice A5 n5 c5])) rfl (by kernel_rfl) (by kernel_rfl) (by kernel_rfl) (fun _ _ _ h => h) (Or.inl ⟨by rfl, ?yt_16⟩) (by assumption) ?qt_16
                                        case yt_16 => (intro w hSw; (try dsimp only at hSw); go_simp)
                                        case qt_16 =>
                                          (try simp only [Act.put]); (try simp only [List.setIfInBounds_toArray])
                                          refine wpAnyH_take (i := 16) (v := (.int .i64 ((k : Int) + 2))) rfl (by kernel_rfl) (by kernel_rfl) (by kernel_rfl) (fun _ _ _ h => h) (Or.inl ⟨by rfl, ?yt_17⟩) (by assumption) ?qt_17
                                          case yt_17 => (intro w hSw; (try dsimp only at hSw); go_simp)
                                          case qt_17 =>
                                            (try simp only [Act.put]); (try simp only [List.setIfInBounds_toArray])
                                            refine wpAnyH_take (i := 17) (v := (.int .i64 0)) rfl (by kernel_rfl) (by kernel_rfl) (by kernel_rfl) (fun _ _ _ h => h) (Or.inl ⟨by rfl, ?yt_18⟩) (by assumption) ?qt_18
                                            case yt_18 => (intro w hSw; (try dsimp only at hSw); go_simp)
                                            case qt_18 =>
                                              (try simp only [Act.put]); (try simp only [List.setIfInBounds_toArray])
                                              refine wpAnyH_ready (rs := [18]) (by kernel_rfl) (by simp) ?_
                                              refine AllReadyH.cons rfl (fun K hK => ?st_19) ?mt_19
                                              case st_19 =>
                                                go_simp
                                                refine hK.out _ _ ?kt_19 (fun hHeld => ?qt_19)
                                                case kt_19 => ((try dsimp only); first | exact HSof.out _ HL6.out | exact HSof.out _ HL.out)
                                                case qt_19 =>
                                                  clear hK K
                                                  (try simp only [Act.put]); (try simp only [List.setIfInBounds_toArray])
                                                  refine wpAnyH_take (i := 19) (v := (.int .i64 ((k : Int) + 2))) rfl (by kernel_rfl) (by kernel_rfl) (by kernel_rfl) (fun _ _ _ h => h) (Or.inl ⟨by rfl, ?yt_20⟩) (by assumption) ?qt_20
                                                  case yt_20 => (intro w hSw; (try dsimp only at hSw); go_simp)
                                                  case qt_20 =>
                                                    (try simp only [Act.put]); (try simp only [List.setIfInBounds_toArray])
                                                    refine wpAnyH_take (i := 20) (v := (.int .i64 0)) rfl (by kernel_rfl) (by kernel_rfl) (by kernel_rfl) (fun _ _ _ h => h) (Or.inl ⟨by rfl, ?yt_21⟩) (by assumption) ?qt_21
                                                    case yt_21 => (intro w hSw; (try dsimp only at hSw); go_simp)
                                                    case qt_21 =>
                                                      (try simp only [Act.put]); (try simp only [List.setIfInBounds_toArray])
                                                      refine wpAnyH_done (by kernel_rfl) ?_ _
                                                      clear hHeld
                                                      generalize (w5.setCell ⟨gm, 0, none⟩ (.int .i64 ((k : Int) + 2 + 1))).setCell ⟨gm, 1, none⟩ (.slice A5 n5 c5) = Y at HX6 HL6 ⊢
                                                      clear p0 p1 p2 p3 HX HL
                                                      go_wp2_with fail
                                                      go_roundw
                                                      case rel => exact ⟨k + 1, A5, n5, c5, l5, by omega, by go_num, rfl, by go_num, Lib.hid (by have := HX6.out; rw [show ((k + 1 : Nat) : Int) + 2 = (k : Int) + 2 + 1 from by omega]; exact this), HL6⟩
                                                      case measure => simp only [intOf]; omega
                                              case mt_19 =>
                                                exact AllReadyH.nil
                                  case mt_14 =>
                                    exact AllReadyH.nil
                              case mt_13 =>
                                exact AllReadyH.nil
    · obtain rfl : k = 4 := by omega
      have HX4 : Hid (BM w gm 6 (awS 4) A n c l wr) := Lib.hid HX.out
      clear HX HL
      have HFi : Hid (∀ X, BM w gm 6 (awS 4) A n c l X → Calls Tryz.prog 13 #[.agg #[.int .i64 6, .slice A n c], .int .i64 1] X (FindIs X (findV 6 (awS 4) 1))) := Lib.hid fun X hX => find_any' X X.heap.size 6 1 A n c (awS 4) hX.nodes (Nat.le_refl _) (aw_fit 4 (Nat.le_refl _))
      have HMo : Hid (∀ X, BM w gm 6 (awS 4) A n c l X → Calls Tryz.prog 21 #[.agg #[.int .i64 6, .slice A n c], .int .i64 1, .int .i64 2, .string ⟨#[105, 116, 101, 109]⟩, .int .i64 0] X (fun e w' => e = .returned (.tuple #[.agg #[.int .i64 0, .slice none 0 0], .int .i64 21]) ∧ Below X.heap.size X w')) := Lib.hid fun X hX => (move_any X X.heap.size 6 1 2 0 sItem A n c (awS 4) hX.nodes (Nat.le_refl _) (by decide) (aw_fit 4 (Nat.le_refl _))).mono fun e w' he => by
        obtain ⟨nx, A', n', c', he, hb, h1, _⟩ := he
        rw [aw_move] at he h1
        obtain ⟨rfl, rfl, rfl, rfl⟩ := h1 (by decide)
        exact ⟨he, hb⟩
      have HKi : Hid (∀ X, BM w gm 6 (awS 4) A n c l X → Calls Tryz.prog 17 #[.agg #[.int .i64 6, .slice A n c], .int .i64 1, .string ⟨#[105, 116, 101, 109]⟩] X (fun e w' => ∃ (A9 : Option Addr) (c9 : Nat), e = .returned (.slice A9 3 c9) ∧ w'.ownsRow X.heap.size 3 1 (.slice A9 3 c9) 3 (intCells [5, 2, 4]) ∧ Below X.heap.size X w')) := Lib.hid fun X hX => (kidsQ_any X X.heap.size 6 1 sItem A n c (awS 4) hX.nodes (Nat.le_refl _)).mono fun e w' he => by
        rw [aw_kids] at he
        obtain ⟨v, he, hv, hb⟩ := he
        obtain ⟨A9, c9, rfl⟩ := own_form hv
        exact ⟨A9, c9, he, hv, hb⟩
      have HCk : Hid (∀ X, BM w gm 6 (awS 4) A n c l X → Calls Tryz.prog 12 #[.agg #[.int .i64 6, .slice A n c]] X (Ret X (.int .i64 0))) := Lib.hid fun X hX => by
        have := check_any X X.heap.size 6 A n c (awS 4) hX.nodes (Nat.le_refl _)
        unfold checkV at this
        rw [aw_right] at this
        exact this
      have HDe : Hid (∀ X, BM w gm 6 (awS 4) A n c l X → Calls Tryz.prog 28 #[.agg #[.int .i64 6, .slice A n c], .int .i64 4] X (Ret X (.int .i64 2))) := Lib.hid fun X hX => by
        have := depthQ_any X X.heap.size 6 4 A n c (awS 4) hX.nodes (Nat.le_refl _)
        rw [aw_depth] at this
        exact this
      have m0 := (HX4.out.m.cell 0).trans (show _ = some (.int .i64 6) from rfl)
      have m1 := (HX4.out.m.cell 1).trans (show _ = some (.slice A n c) from rfl)
      obtain ⟨nd, hnd⟩ : ∃ nd, findV 6 (awS 4) 1 = (nd, true) := ⟨(findV 6 (awS 4) 1).1, by rw [← aw_find.1]⟩
      have hkids : nd.kids = [5, 2, 4, 3] := by have := aw_find.2; rw [hnd] at this; exact this
      have HI1 : Hid (∀ (X : World) (B : Nat) (Ak : Option Addr) (ck : Nat), X.ownsRow B 3 1 (.slice Ak 4 ck) 4 (intCells [5, 2, 4, 3]) → Calls Tryz.prog 22 #[.slice Ak 4 ck, .slice (some ⟨X.heap.size, 0, none⟩) 4 4] (X.alloc (.cells #[.int .i64 5, .int .i64 2, .int .i64 4, .int .i64 3] 3)) (Ret (X.alloc (.cells #[.int .i64 5, .int .i64 2, .int .i64 4, .int .i64 3] 3)) (.bool true))) := Lib.hid fun X B Ak ck h => ints_lit h rfl rfl (by decide)
      have HI2 : Hid (∀ (X : World) (B : Nat) (Ak : Option Addr) (ck : Nat), X.ownsRow B 3 1 (.slice Ak 3 ck) 3 (intCells [5, 2, 4]) → Calls Tryz.prog 22 #[.slice Ak 3 ck, .slice (some ⟨X.heap.size, 0, none⟩) 3 3] (X.alloc (.cells #[.int .i64 5, .int .i64 2, .int .i64 4] 3)) (Ret (X.alloc (.cells #[.int .i64 5, .int .i64 2, .int .i64 4] 3)) (.bool true))) := Lib.hid fun X B Ak ck h => ints_lit h rfl rfl (by decide)
      rw [hnd] at HFi
      have HKL : Hid (nd.kids.length = 4 ∧ nd.kids = [5, 2, 4, 3]) := Lib.hid ⟨by rw [hkids]; rfl, hkids⟩
      clear hnd
      go_upto_region 12 with (go_at_call 13; (with_reducible refine (HFi.out _ HX4.out).mono ?_); go_must (rintro e w5 ⟨⟨⟨Ap, np, cp⟩, ⟨Ak, nk, ck⟩, ⟨Ar, nr, cr⟩⟩, rfl, hlf, hb5⟩; obtain rfl : nk = 4 := (show nk = nd.kids.length from hlf.kn).trans HKL.out.1; have hrk : w5.ownsRow w.heap.size 3 1 (.slice Ak 4 ck) 4 (intCells [5, 2, 4, 3]) := HKL.out.2 ▸ (own_mono hlf.k HX4.out.bel.size); have HY := Lib.hid (HX4.out.after hb5); have HK := Lib.hid hrk; clear hlf hb5 hrk))
      have HN : Hid (Blk (w5.alloc (.cells #[.int .i64 nd.id, .string nd.con, .int .i64 nd.par, .string nd.role, .slice Ap np cp, .slice Ak 4 ck, .slice Ar nr cr] 41)) w5.heap.size 41 #[.int .i64 nd.id, .string nd.con, .int .i64 nd.par, .string nd.role, .slice Ap np cp, .slice Ak 4 ck, .slice Ar nr cr]) := Lib.hid (Blk.new _ _ _)
      replace HY := Lib.hid (HY.out.after (below_box _ (.cells #[.int .i64 nd.id, .string nd.con, .int .i64 nd.par, .string nd.role, .slice Ap np cp, .slice Ak 4 ck, .slice Ar nr cr] 41)))
      replace HK := Lib.hid (own_after HK.out (below_box _ (.cells #[.int .i64 nd.id, .string nd.con, .int .i64 nd.par, .string nd.role, .slice Ap np cp, .slice Ak 4 ck, .slice Ar nr cr] 41)))
      generalize w5.alloc (.cells #[.int .i64 nd.id, .string nd.con, .int .i64 nd.par, .string nd.role, .slice Ap np cp, .slice Ak 4 ck, .slice Ar nr cr] 41) = X6 at HN HY HK ⊢
      generalize w5.heap.size = g8 at HN ⊢
      clear m0 m1 hkids
      have m0 := (HY.out.m.cell 0).trans (show _ = some (.int .i64 6) from rfl)
      have m1 := (HY.out.m.cell 1).trans (show _ = some (.slice A n c) from rfl)
      go_upto_region 13 with (go_at_call 21; (with_reducible refine (HMo.out _ HY.out).mono ?_); go_must (rintro e w6 ⟨rfl, hb6⟩; replace HY := Lib.hid (HY.out.after hb6); replace HN := Lib.hid (HN.out.after hb6); replace HK := Lib.hid (own_after HK.out hb6); clear hb6))
      have hbx := below_box w6 (.cells #[.int .i64 0, .slice none 0 0] 26)
      replace HY := Lib.hid (HY.out.after hbx)
      replace HN := Lib.hid (HN.out.after hbx)
      replace HK := Lib.hid (own_after HK.out hbx)
      clear hbx m0 m1
      generalize w6.alloc (.cells #[.int .i64 0, .slice none 0 0] 26) = X7 at HY HN HK ⊢
      have n5 := (HN.out.cell 5).trans (show _ = some (.slice Ak 4 ck) from rfl)
      go_wp2_with (first | (go_at_call 22; (with_reducible refine (HI1.out _ _ _ _ HK.out).mono ?_); go_must (rintro e w8 ⟨rfl, hb8⟩; have HY8 := Lib.hid ((HY.out.after (below_box _ _)).after hb8); clear hb8; have m0 := (HY8.out.m.cell 0).trans (show _ = some (.int .i64 6) from rfl); have m1 := (HY8.out.m.cell 1).trans (show _ = some (.slice A n c) from rfl))) | (go_at_call 17; (with_reducible refine (HKi.out _ HY8.out).mono ?_); go_must (rintro e w9 ⟨A9, c9, rfl, hv9, hb9⟩; have HY9 := Lib.hid (HY8.out.after hb9); have HK9 := Lib.hid hv9; clear hv9 hb9)) | (go_at_call 22; (with_reducible refine (HI2.out _ _ _ _ HK9.out).mono ?_); go_must (rintro e wa ⟨rfl, hba⟩; have HYa := Lib.hid ((HY9.out.after (below_box _ _)).after hba); clear hba; have p0 := (HYa.out.m.cell 0).trans (show _ = some (.int .i64 6) from rfl); have p1 := (HYa.out.m.cell 1).trans (show _ = some (.slice A n c) from rfl))) | (go_at_call 12; (with_reducible refine (HCk.out _ HYa.out).mono ?_); go_must (rintro e wb ⟨rfl, hbb⟩; have HYb := Lib.hid (HYa.out.after hbb); clear hbb; have q0 := (HYb.out.m.cell 0).trans (show _ = some (.int .i64 6) from rfl); have q1 := (HYb.out.m.cell 1).trans (show _ = some (.slice A n c) from rfl))) | (go_at_call 28; (with_reducible refine (HDe.out _ HYb.out).mono ?_); go_must (rintro e wc ⟨rfl, hbc⟩; have HYc := Lib.hid (HYb.out.after hbc); clear hbc)))
      go_ret
      exact ret_b (by simp) rfl HYc.out.bel
end Go.Proofs.YtbkmdlfenbfdlaaGreat
namespace Go.Proofs.YtbkmdlfenbfdlaaGreat
open Go Go.RowKit Go.Sort
set_option linter.unusedVariables false
attribute [local go_sem ↓] Go.wp_at_zero Go.wp_at_succ
def Ac.cells (x : Ac) : Array Value := #[.int .i64 x.kind, .int .i64 x.a, .int .i64 x.b, .int .i64 x.at_, .string x.word, .string x.text]
theorem own_kh {H B e size n : Nat} {X X' : World} {v : Value} {xs : List Value} (h : X.ownsRow B e size v n xs) (hH : H ≤ B) (hk : KH H X X') : X'.ownsRow B e size v n xs := by
  rcases h.2 with ⟨hv, hn⟩ | ⟨g, cap, cur, hv, hb, hg, rest⟩
  · exact ⟨h.1, .inl ⟨hv, hn⟩⟩
  · refine ⟨h.1, .inr ⟨g, cap, cur, hv, hb, ?_, rest⟩⟩
    rw [hk.keep g (by omega) (Array.getElem?_eq_some_iff.1 hg).1]
    exact hg
theorem OwnM.kh {H B : Nat} {X X' : World} {v : Value} {l : List (Nd × Leaf)} (h : OwnM X B v l) (hH : H ≤ B) (hk : KH H X X') : OwnM X' B v l :=
  ⟨own_kh h.own hH hk, fun p hp => by
    have := h.leaf p hp
    exact ⟨this.pn, this.kn, this.rn, own_kh this.p hH hk, own_kh this.k hH hk, own_kh this.r hH hk, this.sz⟩⟩
theorem Blk.kh {H g : Nat} {X X' : World} {t : TypeId} {cs : Array Value} (h : Blk X g t cs) (hH : H ≤ g) (hk : KH H X X') : Blk X' g t cs := by
  have := hk.keep g hH h.lt
  unfold Blk at h ⊢
  rw [this]; exact h
/-- the boxes of the act, of a model and of its twin -/
structure F5 (w : World) (ac : Array Value) (x1 : Int) (nds : List Nd) (g5 g6 : Nat) (A1 : Option Addr) (n1 c1 : Nat) (l1 : List (Nd × Leaf)) (A4 : Option Addr) (n4 c4 : Nat) (l4 : List (Nd × Leaf)) (X : World) : Prop where
  a : Blk X w.heap.size 32 ac
  m : Blk X g5 26 #[.int .i64 x1, .slice A1 n1 c1]
  t : Blk X g6 26 #[.int .i64 x1, .slice A4 n4 c4]
  om : OwnM X w.heap.size (.slice A1 n1 c1) l1
  lm : l1.length = n1
  mm : l1.map (·.1) = nds
  ot : OwnM X w.heap.size (.slice A4 n4 c4) l4
  lt : l4.length = n4
  mt : l4.map (·.1) = nds
  bel : Below w.heap.size w X
section
variable {w X X' : World} {ac : Array Value} {x1 : Int} {nds : List Nd} {g5 g6 : Nat} {A1 A4 : Option Addr} {n1 c1 n4 c4 : Nat} {l1 l4 : List (Nd × Leaf)}
theorem F5.after (h : F5 w ac x1 nds g5 g6 A1 n1 c1 l1 A4 n4 c4 l4 X) (hb : Below X.heap.size X X') : F5 w ac x1 nds g5 g6 A1 n1 c1 l1 A4 n4 c4 l4 X' :=
  ⟨h.a.after hb, h.m.after hb, h.t.after hb, h.om.after hb, h.lm, h.mm, h.ot.after hb, h.lt, h.mt, h.bel.trans (hb.mono h.bel.size)⟩
theorem F5.nm (h : F5 w ac x1 nds g5 g6 A1 n1 c1 l1 A4 n4 c4 l4 X) : NodesIn X 0 X.heap.size A1 n1 c1 nds := by
  rw [← h.mm]; exact (h.om.nodesIn h.lm).mono (Nat.zero_le _) (Nat.le_refl _)
end
/-- the boxes of what an act made, and of its twin -/
structure F9 (H : Nat) (x1 : Int) (nds : List Nd) (g7 g9 : Nat) (A6 : Option Addr) (n6 c6 : Nat) (A8 : Option Addr) (n8 c8 : Nat) (l8 : List (Nd × Leaf)) (X : World) : Prop where
  m : Blk X g7 26 #[.int .i64 x1, .slice A6 n6 c6]
  t : Blk X g9 26 #[.int .i64 x1, .slice A8 n8 c8]
  h7 : H ≤ g7
  h9 : H ≤ g9
  ot : OwnM X H (.slice A8 n8 c8) l8
  lt : l8.length = n8
  mt : l8.map (·.1) = nds
section
variable {H : Nat} {X X' : World} {x1 : Int} {nds : List Nd} {g7 g9 : Nat} {A6 A8 : Option Addr} {n6 c6 n8 c8 : Nat} {l8 : List (Nd × Leaf)}
theorem F9.after (h : F9 H x1 nds g7 g9 A6 n6 c6 A8 n8 c8 l8 X) (hb : Below X.heap.size X X') : F9 H x1 nds g7 g9 A6 n6 c6 A8 n8 c8 l8 X' := ⟨h.m.after hb, h.t.after hb, h.h7, h.h9, h.ot.after hb, h.lt, h.mt⟩
theorem F9.kh (h : F9 H x1 nds g7 g9 A6 n6 c6 A8 n8 c8 l8 X) (hk : KH H X X') : F9 H x1 nds g7 g9 A6 n6 c6 A8 n8 c8 l8 X' := ⟨h.m.kh h.h7 hk, h.t.kh h.h9 hk, h.h7, h.h9, h.ot.kh (Nat.le_refl _) hk, h.lt, h.mt⟩
end
end Go.Proofs.YtbkmdlfenbfdlaaGreat
namespace Go.Proofs.YtbkmdlfenbfdlaaGreat
open Go Go.RowKit
set_option linter.unusedVariables false
/-- whoever stands in the list has its parent ahead of it, or among a -/
def Ah (nds : List Nd) : List Int → List Int → Prop
  | _, [] => True
  | a, z :: r => (∀ nd, ndOf nds z = some nd → nd.par ∈ a) ∧ Ah nds (z :: a) r
section
variable {next : Int} {nds : List Nd}
theorem Ah.mono : ∀ {L a b : List Int}, (∀ z ∈ a, z ∈ b) → Ah nds a L → Ah nds b L
  | [], _, _, _, _ => trivial
  | x :: r, a, b, hab, h => ⟨fun nd hnd => hab _ (h.1 nd hnd), Ah.mono (fun z hz => by
    rcases List.mem_cons.1 hz with rfl | hz
    · exact List.mem_cons_self ..
    · exact List.mem_cons_of_mem _ (hab z hz)) h.2⟩
theorem Ah.app : ∀ {L1 L2 a : List Int}, Ah nds a L1 → Ah nds a L2 → Ah nds a (L1 ++ L2)
  | [], _, _, _, h => h
  | x :: r, L2, a, h, h2 => ⟨h.1, Ah.app h.2 (h2.mono fun z hz => List.mem_cons_of_mem _ hz)⟩
theorem Ah.at_ : ∀ {L a : List Int} {k : Nat} {z : Int} {nd : Nd}, Ah nds a L → L[k]? = some z → ndOf nds z = some nd → nd.par ∈ a ∨ nd.par ∈ L.take k
  | [], _, _, _, _, _, h, _ => by simp at h
  | x :: r, a, 0, z, nd, h, hk, hnd => by
    simp at hk
    subst hk
    exact .inl (h.1 nd hnd)
  | x :: r, a, k + 1, z, nd, h, hk, hnd => by
    simp at hk
    rw [List.take_succ_cons, List.mem_cons]
    rcases Ah.at_ h.2 hk hnd with h1 | h1
    · rcases List.mem_cons.1 h1 with h1 | h1
      · exact .inr (.inl h1)
      · exact .inl h1
    · exact .inr (.inr h1)
end
/-- marks of numbers -/
def marksV (N : Nat) (ids : List Int) : List Bool := (List.range N).map fun (j : Nat) => ids.contains (j : Int)
theorem marksV_len (N : Nat) (ids : List Int) : (marksV N ids).length = N := by unfold marksV; simp
theorem marksV_at {N : Nat} {ids : List Int} {y : Nat} (h : y < N) : (marksV N ids)[y]? = some (ids.contains (y : Int)) := by
  unfold marksV
  rw [List.getElem?_map, List.getElem?_range h]; rfl
theorem marksV_set {N : Nat} {ids : List Int} {y : Nat} (h : y < N) : (marksV N ids).set y true = marksV N (ids ++ [(y : Int)]) := by
  apply List.ext_getElem?
  intro j
  rw [List.getElem?_set]
  by_cases e : y = j
  · subst e
    rw [if_pos rfl, if_pos (by rw [marksV_len]; exact h), marksV_at h]
    simp
  · rw [if_neg e]
    rcases Nat.lt_or_ge j N with hj | hj
    · rw [marksV_at hj, marksV_at hj]
      congr 1
      have : ¬ (j : Int) = (y : Int) := by omega
      simp [this]
    · rw [List.getElem?_eq_none (by rw [marksV_len]; exact hj), List.getElem?_eq_none (by rw [marksV_len]; exact hj)]
end Go.Proofs.YtbkmdlfenbfdlaaGreat
namespace Go.Proofs.YtbkmdlfenbfdlaaGreat
open Go Go.RowKit Go.Sort
set_option linter.unusedVariables false
attribute [local go_sem ↓] Go.wp_at_zero Go.wp_at_succ
def encB (c : UInt8) : Value := .int .u8 (c.toNat : Int)
/-- the slice v of bytes holds l, in a block of the call's own -/
def ownBs (w : World) (B : Nat) (v : Value) (l : List UInt8) : Prop := w.ownsRow B 5 1 v l.length (l.map encB)
theorem ownBs.nil (w : World) (B : Nat) : ownBs w B (.slice none 0 0) [] := World.ownsRow_nil w B _ _
theorem ownBs.after {w w' : World} {B : Nat} {v : Value} {l : List UInt8} (h : ownBs w B v l) (hb : Below w.heap.size w w') : ownBs w' B v l := own_after h hb
theorem ownBs.grown {w w' : World} {B : Nat} {v : Value} {l : List UInt8} (h : ownBs w B v l) (hB : B ≤ w.heap.size) (hg : w.grownBy w' v.ownBlock) : Below B w w' :=
  (Below.refl _ _).grown hg hB (fun k hk => (World.ownsRow.lt h k hk).1)
/-- a number's digits, the last one first -/
def digB : Nat → Nat → List UInt8
  | 0, _ => []
  | f + 1, K => if K = 0 then [] else UInt8.ofNat (48 + K % 10) :: digB f (K / 10)
def headS (con role : ByteArray) : ByteArray := con ++ ⟨#[32]⟩ ++ role ++ ⟨#[32]⟩
def lineB (nd : Nd) : List UInt8 := (headS nd.con nd.role).data.toList ++ digB nd.par.toNat nd.par.toNat ++ [10]
def sortedL (nds : List Nd) : List UInt8 := nds.flatMap lineB
def sortedV (nds : List Nd) : ByteArray := ⟨(sortedL nds).toArray⟩
/-- the box of sorted, and the bytes -/
structure SO (w : World) (next : Int) (A : Option Addr) (n c : Nat) (vb : Value) (l : List UInt8) (X : World) : Prop where
  m : Blk X w.heap.size 26 #[.int .i64 next, .slice A n c]
  own : ownBs X (w.heap.size + 1) vb l
  bel : Below w.heap.size w X
section
variable {w X X' : World} {next : Int} {A : Option Addr} {n c : Nat} {vb vb' : Value} {l l' : List UInt8}
theorem SO.after (h : SO w next A n c vb l X) (hb : Below X.heap.size X X') : SO w next A n c vb l X' := ⟨h.m.after hb, h.own.after hb, h.bel.trans (hb.mono h.bel.size)⟩
theorem SO.push (h : SO w next A n c vb l X) (hb : Below (w.heap.size + 1) X X') (ho : ownBs X' (w.heap.size + 1) vb' l') : SO w next A n c vb' l' X' := ⟨h.m.below hb (Nat.lt_succ_self _), ho, h.bel.trans (hb.mono (Nat.le_succ _))⟩
theorem SO.le (h : SO w next A n c vb l X) : w.heap.size + 1 ≤ X.heap.size := h.m.lt
end
end Go.Proofs.YtbkmdlfenbfdlaaGreat
namespace Go.Proofs.YtbkmdlfenbfdlaaGreat
open Go Go.RowKit
set_option linter.unusedVariables false
theorem lessI_no {id : Int} {l : List Int} (h : id ∉ l) : lessI id l = l := by
  unfold lessI
  refine List.filter_eq_self.2 fun k hk => ?_
  rw [bne_iff_ne]
  rintro rfl
  exact h hk
theorem lessI_ins {id : Int} {l : List Int} {a : Nat} (h : id ∉ l) : lessI id (insAt l a id) = l := by
  have h1 := lessI_no (id := id) (l := l.take a) (fun hm => h (List.mem_of_mem_take hm))
  have h2 := lessI_no (id := id) (l := l.drop a) (fun hm => h (List.mem_of_mem_drop hm))
  unfold lessI at h1 h2 ⊢
  unfold insAt
  rw [List.filter_append, List.filter_cons_of_neg (by simp), h1, h2, List.take_append_drop]
/-- the part's first node alone, as if it hung there -/
def orpF (id parent : Int) (role : ByteArray) (y : Nd) : Nd := if y.id = id then { y with par := parent, role := role } else y
theorem orpF_id {id parent : Int} {role : ByteArray} {y : Nd} : (orpF id parent role y).id = y.id := by unfold orpF; split <;> rfl
theorem orpF_ne {id parent : Int} {role : ByteArray} {y : Nd} (h : y.id ≠ id) : orpF id parent role y = y := by unfold orpF; rw [if_neg h]
section
variable {next : Int} {nds t : List Nd} {id parent : Int} {S : Int → Bool} {d : Int → Nat} {hh : Nat} {role : ByteArray} {a : Nat}
theorem TX.take_put (h : TX next t id S d hh) (hne : parent ≠ id) : takeL (t.map (putF id parent role a)) id = t.map (orpF id parent role) := by
  obtain ⟨o, ho, hoi⟩ := h.orp
  have hf : ∀ y, (putF id parent role a y).id = y.id := fun y => putF_same.1
  have hp : parV (t.map (putF id parent role a)) id = parent := by
    unfold parV
    rw [ndOf_map hf, (ndOf_mem h.riseR).2 ⟨ho, hoi⟩]
    exact (putF_orp hoi).1
  unfold takeL
  rw [hp, List.map_map]
  refine List.map_congr_left fun y hy => ?_
  simp only [Function.comp_apply]
  unfold takeF orpF
  rw [putF_same.1]
  by_cases hyi : y.id = id
  · rw [if_neg (by rw [hyi]; exact Ne.symm hne), if_pos hyi]
    unfold putF
    rw [if_pos hyi]
  · rw [if_neg hyi]
    by_cases hyp : y.id = parent
    · rw [if_pos hyp, putF_at hyi hyp, lessI_ins (fun hm => (h.kid y hy id hm).1 rfl)]
      unfold putF
      rw [if_neg hyi, if_pos hyp]
    · rw [if_neg hyp]
      unfold putF
      rw [if_neg hyi, if_neg hyp]
theorem TX.part_put (h : TX next t id S d hh) (hT : TM next (t.map (putF id parent role a))) : ∀ y ∈ t, (preI (t.map (putF id parent role a)) id).contains y.id = S y.id := by
  intro y hy
  have hR := rightM hT.right
  obtain ⟨o, ho, hoi⟩ := h.orp
  have hf : ∀ y, (putF id parent role a y).id = y.id := fun y => putF_same.1
  have hx : ndOf (t.map (putF id parent role a)) id = some (putF id parent role a o) := by rw [ndOf_map hf, (ndOf_mem h.riseR).2 ⟨ho, hoi⟩]; rfl
  have := preI_is hR hx (S := S) h.s0 h.s1 (fun z hz hne => by
    obtain ⟨u, hu, rfl⟩ := List.mem_map.1 hz
    rw [hf] at hne ⊢
    rw [(putF_par hne).1]
    exact (h.dep u hu hne).2) 64 (putF id parent role a y) (List.mem_map_of_mem hy) (hR.step (List.mem_map_of_mem hy)).2
  rwa [hf] at this
/-- what was put and is removed again -/
theorem TX.remove_put (h : TX next t id S d hh) (hne : parent ≠ id) (hT : TM next (t.map (putF id parent role a))) :
    removeE next (t.map (putF id parent role a)) id = 0 ∧ removeL (t.map (putF id parent role a)) id = t.filter (fun y => !S y.id) := by
  obtain ⟨o, ho, hoi⟩ := h.orp
  have hf : ∀ y, (putF id parent role a y).id = y.id := fun y => putF_same.1
  have hx : ndOf (t.map (putF id parent role a)) id = some (putF id parent role a o) := by rw [ndOf_map hf, (ndOf_mem h.riseR).2 ⟨ho, hoi⟩]; rfl
  refine ⟨by unfold removeE; rw [hT.right, hx]; rfl, ?_⟩
  unfold removeL
  rw [h.take_put hne, List.filter_map]
  have hp := h.part_put hT
  have e : t.filter ((fun y => !(preI (t.map (putF id parent role a)) id).contains y.id) ∘ orpF id parent role) = t.filter (fun y => !S y.id) := by
    refine List.filter_congr fun y hy => ?_
    simp only [Function.comp_apply]
    rw [orpF_id, hp y hy]
  rw [e]
  conv => rhs; rw [← List.map_id (t.filter fun y => !S y.id)]
  refine List.map_congr_left fun y hy => ?_
  obtain ⟨_, hs⟩ := List.mem_filter.1 hy
  exact orpF_ne (fun e => by rw [e, h.s1] at hs; simp at hs)
/-- levels are told by what leads up -/
theorem dep_uniq (hR : RightM next t) {d : Int → Nat} (h0 : d 0 = 0) (hd : ∀ nd ∈ t, d nd.id = d nd.par + 1) : ∀ (f : Nat) (nd : Nd), nd ∈ t → depthV t nd.id ≤ f → depthV t nd.id = d nd.id
  | 0, nd, hnd, hf => by have := (hR.step hnd).1; omega
  | f + 1, nd, hnd, hf => by
    have h1 := (hR.step hnd).1
    rw [h1, hd nd hnd]
    by_cases hp : nd.par = 0
    · rw [hp, h0, depth_root.2]
    · obtain ⟨q, hq, _⟩ := in_kids hR ((ndOf_mem hR.rise).2 ⟨hnd, rfl⟩) hp
      obtain ⟨hqm, hqi⟩ := (ndOf_mem hR.rise).1 hq
      rw [← hqi] at h1 ⊢
      rw [dep_uniq hR h0 hd f q hqm (by omega)]
end
theorem before_split {f : Int → Bool} {K : List Int} (hn : K.Nodup) {was : Nat} (hw : was ≤ (K.filter f).length) :
    ∃ a : Nat, beforeV f (was : Int) K = (a : Int) ∧ (K.take a).filter f = (K.filter f).take was ∧ (K.drop a).filter f = (K.filter f).drop was := by
  unfold beforeV
  rw [if_neg (by omega)]
  simp only [Int.toNat_natCast]
  cases hg : (K.filter f)[was]? with
  | some k =>
    simp only
    have hk : k ∈ K.filter f := List.mem_of_getElem? hg
    obtain ⟨hkK, hkf⟩ := List.mem_filter.1 hk
    obtain ⟨pre, post, rfl⟩ := List.append_of_mem hkK
    refine ⟨pre.length, idx_nodup hn, ?_⟩
    have e : (pre ++ k :: post).filter f = pre.filter f ++ k :: post.filter f := by rw [List.filter_append, List.filter_cons_of_pos hkf]
    have hnf : (pre.filter f ++ k :: post.filter f).Nodup := by rw [← e]; exact List.Sublist.nodup List.filter_sublist hn
    have hpl : (pre.filter f).length = was := by
      have h1 : (pre.filter f ++ k :: post.filter f)[(pre.filter f).length]? = some k := by rw [List.getElem?_append_right (Nat.le_refl _), Nat.sub_self]; rfl
      have e1 := idxV_nd hnf h1
      rw [e] at hg
      have e2 := idxV_nd hnf hg
      omega
    rw [e, List.take_left' rfl, List.drop_left' rfl, List.filter_cons_of_pos hkf, ← hpl, List.take_left' rfl, List.drop_left' rfl]
    exact ⟨rfl, rfl⟩
  | none =>
    have hwl : was = (K.filter f).length := by
      have := List.getElem?_eq_none_iff.1 hg
      omega
    simp only
    cases hl : (K.filter f).getLast? with
    | none =>
      have hF : K.filter f = [] := List.getLast?_eq_none_iff.1 hl
      refine ⟨K.length, rfl, ?_, ?_⟩
      · rw [List.take_of_length_le (Nat.le_refl _), hF]; simp
      · rw [List.drop_of_length_le (Nat.le_refl _), hF]; simp
    | some k =>
      simp only
      obtain ⟨ys, hys⟩ := List.getLast?_eq_some_iff.1 hl
      have hk : k ∈ K.filter f := by rw [hys]; simp
      obtain ⟨hkK, hkf⟩ := List.mem_filter.1 hk
      obtain ⟨pre, post, rfl⟩ := List.append_of_mem hkK
      have e : (pre ++ k :: post).filter f = pre.filter f ++ k :: post.filter f := by rw [List.filter_append, List.filter_cons_of_pos hkf]
      have hnf : (pre.filter f ++ k :: post.filter f).Nodup := by rw [← e]; exact List.Sublist.nodup List.filter_sublist hn
      have hpost : post.filter f = [] := by
        have h1 : (pre.filter f ++ k :: post.filter f)[(pre.filter f).length]? = some k := by rw [List.getElem?_append_right (Nat.le_refl _), Nat.sub_self]; rfl
        have e1 := idxV_nd hnf h1
        have h2 : (pre.filter f ++ k :: post.filter f)[ys.length]? = some k := by rw [← e, hys, List.getElem?_append_right (Nat.le_refl _), Nat.sub_self]; rfl
        have e2 := idxV_nd hnf h2
        have h3 := congrArg List.length (e.symm.trans hys)
        simp only [List.length_append, List.length_cons, List.length_nil] at h3
        exact List.length_eq_zero_iff.1 (by omega)
      refine ⟨pre.length + 1, by rw [idx_nodup hn]; omega, ?_, ?_⟩
      · rw [hwl, List.take_of_length_le (Nat.le_refl _), e, hpost, show pre ++ k :: post = (pre ++ [k]) ++ post from by simp, List.take_left' (by simp), List.filter_append, List.filter_cons_of_pos hkf]; rfl
      · rw [hwl, List.drop_of_length_le (Nat.le_refl _), show pre ++ k :: post = (pre ++ [k]) ++ post from by simp, List.drop_left' (by simp), hpost]
theorem ins_filter {f g : Int → Bool} {K : List Int} {a : Nat} {id : Int} (hg : g id = true) (hfg : ∀ k ∈ K, g k = f k) : (insAt K a id).filter g = (K.take a).filter f ++ id :: (K.drop a).filter f := by
  unfold insAt
  rw [List.filter_append, List.filter_cons_of_pos hg, List.filter_congr fun k hk => hfg k (List.mem_of_mem_take hk), List.filter_congr (l := K.drop a) fun k hk => hfg k (List.mem_of_mem_drop hk)]
theorem back_list {l : List Int} (hn : l.Nodup) {was : Nat} {id : Int} (hw : l[was]? = some id) : (lessI id l).take was ++ id :: (lessI id l).drop was = l ∧ was ≤ (lessI id l).length := by
  obtain ⟨hl, hx⟩ := List.getElem?_eq_some_iff.1 hw
  have e : l = l.take was ++ id :: l.drop (was + 1) := by rw [← hx, ← List.drop_eq_getElem_cons hl, List.take_append_drop]
  have hlt : (l.take was).length = was := by rw [List.length_take]; omega
  obtain ⟨pre, hpre⟩ : ∃ pre, l.take was = pre := ⟨_, rfl⟩
  obtain ⟨post, hpost⟩ : ∃ post, l.drop (was + 1) = post := ⟨_, rfl⟩
  rw [hpre, hpost] at e
  rw [hpre] at hlt
  rw [e] at hn
  obtain ⟨n1, n2, n3⟩ := List.nodup_append.1 hn
  have hi1 : id ∉ pre := fun hm => n3 id hm id (List.mem_cons_self ..) rfl
  have hi2 : id ∉ post := (List.nodup_cons.1 n2).1
  have el : lessI id l = pre ++ post := by
    rw [e]
    have h1 := lessI_no hi1
    have h2 := lessI_no hi2
    unfold lessI at h1 h2 ⊢
    rw [List.filter_append, List.filter_cons_of_neg (by simp), h1, h2]
  rw [el, List.take_left' hlt, List.drop_left' hlt]
  refine ⟨e.symm, ?_⟩
  rw [List.length_append]; omega
end Go.Proofs.YtbkmdlfenbfdlaaGreat
namespace Go.Proofs.YtbkmdlfenbfdlaaGreat
open Go Go.RowKit
set_option linter.unusedVariables false
theorem sortedL_map {F : Nd → Nd} : ∀ {nds : List Nd}, (∀ y ∈ nds, lineB (F y) = lineB y) → sortedL (nds.map F) = sortedL nds
  | [], _ => rfl
  | x :: r, h => by
    have ih := sortedL_map (F := F) (nds := r) fun y hy => h y (List.mem_cons_of_mem _ hy)
    unfold sortedL at ih ⊢
    rw [List.map_cons, List.flatMap_cons, List.flatMap_cons, h x (List.mem_cons_self ..), ih]
section
variable {next : Int} {nds : List Nd} {id tgt : Int} {role : ByteArray} {at_ : Int} {nd : Nd}
/-- what is known of a model from which a node was moved -/
structure BackS (next : Int) (nds z : List Nd) (id : Int) (nd : Nd) (tgt : Int) (role : ByteArray) : Prop where
  tm : TM next z
  tk : takeL z id = (takeL nds id).map (orpF id tgt role)
  nid : ∃ x, ndOf z id = some x
  off : (preI z id).contains nd.par = false
  hi : depthV z nd.par + hiV z id ≤ 64
theorem TM.moved (hT : TM next nds) (hx : ndOf nds id = some nd) (he : moveE next nds id tgt role at_ = 0) : BackS next nds (moveL next nds id tgt role at_) id nd tgt role := by
  have hR := rightM hT.right
  obtain ⟨hr, hw, _, hl, ha⟩ := moveE_ok he
  have tx := hR.takeX hT hx
  have hz := hT.move he
  have ez := moveL_put hT he
  obtain ⟨a, hae⟩ : ∃ a, (admV next (takeL nds id) tgt role at_ (hiV nds id) 0).1.toNat = a := ⟨_, rfl⟩
  rw [hae] at ez
  rw [ez] at hz ⊢
  have hto : tgt ≠ id := not_self hl
  obtain ⟨hm, hid⟩ := (ndOf_mem hR.rise).1 hx
  have hRz := rightM hz.right
  have hf : ∀ y, (putF id tgt role a y).id = y.id := fun y => putF_same.1
  have hxz : ndOf ((takeL nds id).map (putF id tgt role a)) id = some (putF id tgt role a (takeF (parV nds id) id nd)) := by
    rw [ndOf_map hf]
    unfold takeL
    rw [ndOf_map (takeF_id _ _), hx]; rfl
  have hst := hR.step hm
  have hSp : (preI nds id).contains nd.par = false := by
    cases hc : (preI nds id).contains nd.par with
    | false => rfl
    | true =>
      have := preI_up hR hx (List.contains_iff_mem.1 hc)
      rw [hid] at hst
      omega
  have hmemz : ∀ y' ∈ (takeL nds id).map (putF id tgt role a), ∃ u ∈ nds, y' = putF id tgt role a (takeF (parV nds id) id u) ∧ y'.id = u.id ∧ takeF (parV nds id) id u ∈ takeL nds id := fun y' hy' => by
    obtain ⟨u', hu', rfl⟩ := List.mem_map.1 hy'
    obtain ⟨u, hu, rfl⟩ := List.mem_map.1 hu'
    exact ⟨u, hu, rfl, by rw [hf, takeF_id], List.mem_map_of_mem hu⟩
  have hoff : (preI ((takeL nds id).map (putF id tgt role a)) id).contains nd.par = false := by
    cases hc : (preI ((takeL nds id).map (putF id tgt role a)) id).contains nd.par with
    | false => rfl
    | true =>
      obtain ⟨q', hq'⟩ := preI_mem hRz hxz (List.contains_iff_mem.1 hc)
      obtain ⟨hqm, hqi⟩ := (ndOf_mem hRz.rise).1 hq'
      obtain ⟨u, hu, _, hui, hut⟩ := hmemz q' hqm
      have := tx.part_put hz _ hut
      rw [takeF_id, ← hui, hqi, hc, hSp] at this
      cases this
  have hdep : ∀ u ∈ nds, depthV ((takeL nds id).map (putF id tgt role a)) u.id = if (preI nds id).contains u.id = true then depthV nds u.id - depthV nds id + 1 + depthV nds tgt else depthV nds u.id := by
    intro u hu
    have key := dep_uniq hRz (d := fun x => if (preI nds id).contains x = true then depthV nds x - depthV nds id + 1 + depthV nds tgt else depthV nds x) (by
      show (if (preI nds id).contains 0 = true then _ else _) = 0
      have h0 := tx.s0
      try simp only at h0
      rw [h0, if_neg (by decide)]
      exact depth_root.2) (fun y' hy' => by
      obtain ⟨v, hv, rfl, hvi, hvt⟩ := hmemz y' hy'
      show (if (preI nds id).contains _ = true then _ else _) = (if (preI nds id).contains _ = true then _ else _) + 1
      rw [hvi]
      by_cases hvid : v.id = id
      · have h1 := tx.s1
        try simp only at h1
        rw [(putF_orp (by rw [takeF_id]; exact hvid)).1, hvid, hl, h1]
        simp only [if_true, Bool.false_eq_true, if_false]
        omega
      · rw [(putF_par (by rw [takeF_id]; exact hvid)).1, takeF_par]
        obtain ⟨e1, e2⟩ := tx.dep _ hvt (by rw [takeF_id]; exact hvid)
        try simp only at e1 e2
        rw [takeF_id, takeF_par] at e1 e2
        rw [e2] at e1 ⊢
        cases hc : (preI nds id).contains v.par with
        | true =>
          rw [hc] at e1
          simp only [if_true] at e1 ⊢
          omega
        | false =>
          rw [hc] at e1
          simp only [Bool.false_eq_true, if_false] at e1 ⊢
          exact e1) 64 (putF id tgt role a (takeF (parV nds id) id u)) (List.mem_map_of_mem (List.mem_map_of_mem hu)) (hRz.step (List.mem_map_of_mem (List.mem_map_of_mem hu))).2
    rwa [hf, takeF_id] at key
  have hdp : depthV ((takeL nds id).map (putF id tgt role a)) nd.par = depthV nds nd.par := by
    by_cases h0 : nd.par = 0
    · rw [h0, depth_root.2, depth_root.2]
    · obtain ⟨q, hq, _⟩ := in_kids hR hx h0
      obtain ⟨hqm, hqi⟩ := (ndOf_mem hR.rise).1 hq
      have := hdep q hqm
      rwa [hqi, hSp, if_neg (by decide)] at this
  have hdid : depthV ((takeL nds id).map (putF id tgt role a)) id = 1 + depthV nds tgt := by
    have := hdep nd hm
    rw [hid] at this
    have h1 := tx.s1
    try simp only at h1
    rw [h1, if_pos rfl] at this
    omega
  have hhi : hiV ((takeL nds id).map (putF id tgt role a)) id ≤ 64 - depthV nds nd.par := by
    unfold hiV
    refine fold_le _ _ _ _ (Nat.zero_le _) fun y hy => ?_
    obtain ⟨y', hy'⟩ := preI_mem hRz hxz hy
    obtain ⟨hym, hyi⟩ := (ndOf_mem hRz.rise).1 hy'
    obtain ⟨u, hu, _, hui, hut⟩ := hmemz y' hym
    have hyu : y = u.id := by rw [← hyi, hui]
    have hS := tx.part_put hz _ hut
    rw [takeF_id, ← hyu, List.contains_iff_mem.2 hy] at hS
    try simp only at hS
    have h1 := hdep u hu
    rw [← hyu, ← hS, if_pos rfl] at h1
    have h2 := (hR.step hu).2
    rw [← hyu] at h2
    have h3 := preI_up hR hx (List.contains_iff_mem.1 hS.symm)
    rw [hid] at hst
    rw [h1, hdid]
    omega
  refine ⟨hz, tx.take_put hto, ⟨_, hxz⟩, hoff, ?_⟩
  rw [hdp]
  have := hst.2
  rw [hid] at this hst
  omega
/-- back tgt where it hung: the place is one -/
theorem BackS.ok (hT : TM next nds) (hx : ndOf nds id = some nd) {z : List Nd} (B : BackS next nds z id nd tgt role) {at' : Int} (ham : (amV (takeL z id) nd.par nd.role at').2 = true) :
    moveE next z id nd.par nd.role at' = 0 ∧ sortedV (moveL next z id nd.par nd.role at') = sortedV nds := by
  have hR := rightM hT.right
  obtain ⟨hm, hid⟩ := (ndOf_mem hR.rise).1 hx
  have hlen : (takeL z id).length = nds.length := by rw [B.tk, List.length_map]; unfold takeL; rw [List.length_map]
  have h1 := hT.len
  have h2 := hT.hi
  obtain ⟨x, hxz⟩ := B.nid
  have hnm : (nd.par == 0 || wordB nd.role) = true := by
    rcases hT.par nd hm with ⟨h0, _⟩ | ⟨_, hw, _⟩
    · rw [h0]; rfl
    · rw [hw, Bool.or_true]
  have hex : ¬ (nd.par ≠ 0 ∧ (ndOf (takeL z id) nd.par).isNone = true) := by
    rintro ⟨h0, hn⟩
    obtain ⟨q, hq, _⟩ := in_kids hR hx h0
    rw [B.tk, ndOf_map (fun y => orpF_id)] at hn
    unfold takeL at hn
    rw [ndOf_map (takeF_id _ _), hq] at hn
    cases hn
  have hE : moveE next z id nd.par nd.role at' = 0 := by
    unfold moveE
    rw [B.tm.right, if_neg (by decide), hnm, if_neg (by decide), hxz, if_neg (by simp), B.off, if_neg (by decide)]
    unfold admV
    rw [if_neg hex, ham, if_neg (by decide), takeL_depth, if_neg (by have := B.hi; omega), if_neg (by rw [hlen]; omega), if_neg (by omega)]
  refine ⟨hE, ?_⟩
  obtain ⟨a2, ha2⟩ : ∃ a2, (admV next (takeL z id) nd.par nd.role at' (hiV z id) 0).1.toNat = a2 := ⟨_, rfl⟩
  rw [moveL_put B.tm hE, ha2, B.tk]
  unfold sortedV takeL
  rw [List.map_map, List.map_map, sortedL_map]
  intro y hy
  simp only [Function.comp_apply]
  have key : ∀ u : Nd, u.con = y.con → u.role = y.role → u.par = y.par → lineB u = lineB y := fun u e1 e2 e3 => by unfold lineB; rw [e1, e2, e3]
  have t1 : (takeF (parV nds id) id y).con = y.con ∧ (takeF (parV nds id) id y).role = y.role := by unfold takeF; split <;> exact ⟨rfl, rfl⟩
  by_cases hyi : y.id = id
  · have hye : y = nd := nd_uniq hR.rise hy hm (by rw [hyi, hid])
    have o1 : (orpF id tgt role (takeF (parV nds id) id y)).id = id := by rw [orpF_id, takeF_id]; exact hyi
    have o2 : (orpF id tgt role (takeF (parV nds id) id y)).con = y.con := by unfold orpF; split <;> exact t1.1
    obtain ⟨p1, p2, _⟩ := putF_orp (parent := nd.par) (role := nd.role) (a := a2) o1
    exact key _ ((putF_same.2.1).trans o2) (p2.trans (by rw [hye])) (p1.trans (by rw [hye]))
  · have o1 : orpF id tgt role (takeF (parV nds id) id y) = takeF (parV nds id) id y := orpF_ne (by rw [takeF_id]; exact hyi)
    rw [o1]
    obtain ⟨p1, p2⟩ := putF_par (id := id) (parent := nd.par) (role := nd.role) (a := a2) (y := takeF (parV nds id) id y) (by rw [takeF_id]; exact hyi)
    exact key _ ((putF_same.2.1).trans t1.1) (p2.trans t1.2) (p1.trans (takeF_par _ _ _))
end
end Go.Proofs.YtbkmdlfenbfdlaaGreat

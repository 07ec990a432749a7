/-
  WALKS: what is done at each node: a function value that is called at nodes in document order.
-/
import Derived.Test.YtmjkcbhkmkofjaaP8
import Derived.Test.YtmjkcbhkmkofjaaR
import Derived.Deep.DrawnRows
namespace Go.Proofs.Ytmjkcbhkmkofjaa
open Go Go.RowKit Go.Sort
set_option linter.unusedVariables false
attribute [local go_sem ↓] Go.wp_at_zero Go.wp_at_succ

theorem below_drew1 (w : World) : Below w.heap.size w w.drew := ⟨rfl, rfl, rfl, Nat.le_refl _, fun _ _ => rfl⟩
/-- numbers in memory that is left alone: it was there at w0, and is not the block g0 -/
def RowF (w0 : World) (g0 : Nat) (A : Option Addr) (n c : Nat) (ids : List Int) : Prop :=
  ids.length = n ∧ n ≤ c ∧ c ≤ maxLen ∧ (0 < n → ∃ b o, A = some ⟨b, o, none⟩ ∧ b < w0.heap.size ∧ b ≠ g0 ∧ ∀ j u, (intCells ids)[j]? = some u → w0.cell? ⟨b, o + j, none⟩ = some u)
theorem RowF.of {w0 : World} {g0 lo hi n c : Nat} {A : Option Addr} {ids : List Int} (h : Row w0 lo hi 1 A n c (intCells ids)) (hh : hi ≤ w0.heap.size) (hg : g0 < lo ∨ hi ≤ g0) : RowF w0 g0 A n c ids := by
  refine ⟨by have := h.1; rw [intCells_length] at this; omega, h.2.1, h.2.2.1, fun hn => ?_⟩
  obtain ⟨b, o, e, h1, h2, hc⟩ := h.2.2.2 hn
  exact ⟨b, o, e, by omega, by omega, hc⟩
/-- blocks of other types stay -/
def Keeps (X X' : World) : Prop := X.heap.size ≤ X'.heap.size ∧ ∀ g t cs, t ≠ 3 → t ≠ 48 → Blk X g t cs → Blk X' g t cs
theorem Keeps.of {X X' : World} (h : Below X.heap.size X X') : Keeps X X' := ⟨h.size, fun g t cs _ _ hb => hb.after h⟩
theorem Keeps.trans {X X' X'' : World} (h : Keeps X X') (h' : Keeps X' X'') : Keeps X X'' := ⟨Nat.le_trans h.1 h'.1, fun g t cs h1 h2 hb => h'.2 g t cs h1 h2 (h.2 g t cs h1 h2 hb)⟩
/-- a function value that is called at nodes: what holds of the world behind the nodes so far -/
structure Visit (w0 : World) (g0 M : Nat) (A : Option Addr) (nds : List Nd) (F : FuncId) (caps : Array Value) (Inv : World → List (Int × Nat) → Prop) : Prop where
  enters : ∀ args w, Sem.run Try.prog (callFunc F args) w = .ok (.enter F args) w
  grown : ∀ X l, Inv X l → w0.grownBy X (some g0)
  after : ∀ X X' l, Inv X l → Below X.heap.size X X' → Inv X' l
  call : ∀ X l (i : Nat) nd (d : Nat) b o, Inv X l → l.length < M → nds[i]? = some nd → A = some ⟨b, o, none⟩ → d ≤ 65 →
    Calls Try.prog F (#[.pointer (some ⟨b, o + i * 7, none⟩), .int .i64 d] ++ caps) X fun e X' => e = .returned (.tuple #[]) ∧ Inv X' (l ++ [(nd.id, d)]) ∧ Keeps X X'
/-- .. and the boxes of the walk -/
structure OV (next : Int) (A : Option Addr) (n c : Nat) (g1 g2 g3 : Nat) (F : FuncId) (caps : Array Value) (Inv : World → List (Int × Nat) → Prop) (l : List (Int × Nat)) (X : World) : Prop where
  inv : Inv X l
  m : Blk X g1 24 #[.int .i64 next, .slice A n c]
  v : Blk X g2 99 #[.func (.func F) #[] caps]
  d : Blk X g3 128 #[.func (.func 120) #[] #[.pointer (some ⟨g1, 0, none⟩), .pointer (some ⟨g2, 0, none⟩), .pointer (some ⟨g3, 0, none⟩)]]
section
variable {w0 : World} {g0 M : Nat} {A : Option Addr} {nds : List Nd} {F : FuncId} {caps : Array Value} {Inv : World → List (Int × Nat) → Prop} {next : Int} {n c g1 g2 g3 : Nat} {l : List (Int × Nat)} {X X' : World}
theorem OV.after (V : Visit w0 g0 M A nds F caps Inv) (h : OV next A n c g1 g2 g3 F caps Inv l X) (hb : Below X.heap.size X X') : OV next A n c g1 g2 g3 F caps Inv l X' :=
  ⟨V.after _ _ _ h.inv hb, h.m.after hb, h.v.after hb, h.d.after hb⟩
theorem OV.step {l' : List (Int × Nat)} (h : OV next A n c g1 g2 g3 F caps Inv l X) (hi : Inv X' l') (hk : Keeps X X') : OV next A n c g1 g2 g3 F caps Inv l' X' :=
  ⟨hi, hk.2 _ _ _ (by decide) (by decide) h.m, hk.2 _ _ _ (by decide) (by decide) h.v, hk.2 _ _ _ (by decide) (by decide) h.d⟩
theorem grown_cell {b o : Nat} (h : w0.grownBy X (some g0)) (hb : b < w0.heap.size) (hne : b ≠ g0) : X.cell? ⟨b, o, none⟩ = w0.cell? ⟨b, o, none⟩ := only_cell h hb hne
theorem grown_nodes {lo hi : Nat} (h : w0.grownBy X (some g0)) (hn : NodesIn w0 lo hi A n c nds) (hh : hi ≤ w0.heap.size) (hg : hi ≤ g0) : NodesIn X lo hi A n c nds :=
  hn.keep fun b o hb => only_cell h (by omega) (by omega)
end

set_option maxRecDepth 100000 in
set_option maxHeartbeats 3200000 in
theorem down_any (w0 : World) (hi g0 M : Nat) (next : Int) (A : Option Addr) (n c : Nat) (nds : List Nd) (F : FuncId) (caps : Array Value) (Inv : World → List (Int × Nat) → Prop) (V : Visit w0 g0 M A nds F caps Inv)
    (hN : NodesIn w0 0 hi A n c nds) (hh : hi ≤ w0.heap.size) (hg : hi ≤ g0) (hr : Rise nds) (hn : n ≤ 4096) (g1 g2 g3 : Nat) : ∀ (f : Nat) (X : World) (l : List (Int × Nat)) (ids : List Int) (A' : Option Addr) (n' c' d : Nat),
    OV next A n c g1 g2 g3 F caps Inv l X → OkF nds f ids → RowF w0 g0 A' n' c' ids → l.length + (pre nds f d ids).length ≤ M → d + f ≤ 66 →
    Calls Try.prog 120 #[.slice A' n' c', .int .i64 d, .pointer (some ⟨g1, 0, none⟩), .pointer (some ⟨g2, 0, none⟩), .pointer (some ⟨g3, 0, none⟩)] X
      fun e X' => e = .returned (.tuple #[]) ∧ OV next A n c g1 g2 g3 F caps Inv (l ++ pre nds f d ids) X' := by
  intro f
  induction f using Nat.strongRecOn with
  | _ f ih =>
  intro X l ids A' n' c' d hO hok hrow hM hd
  have hlen := hrow.1
  have hnc' := hrow.2.1
  have hc' := hrow.2.2.1
  have hrw := hrow.2.2.2
  unfold maxLen at hc'
  have HLEN := Lib.hid hlen
  have HOK := Lib.hid hok
  have HRW := Lib.hid hrw
  have HO0 := Lib.hid hO
  have HIHs := Lib.hid ih
  have HM := Lib.hid hM
  have hen := V.enters
  have HV := Lib.hid V
  have HNN := Lib.hid hN
  clear hlen hok hrw hrow hO ih hM V hN
  go_enter Try.func120, Try.ntmps120
  go_wp2_with fail
  go_loopw [12] (fun i wr => ∃ k : Nat, k ≤ n' ∧ i = .int .i64 k ∧ OV next A n c g1 g2 g3 F caps Inv (l ++ pre nds f d (ids.take k)) wr) (fun i _ => n' - (intOf i).toNat)
  case atStart => exact ⟨0, Nat.zero_le _, rfl, by rw [List.take_zero, pre_nil, List.append_nil]; exact HO0.out⟩
  case round =>
    obtain ⟨k, hk, rfl, hv⟩ := hrel
    rename World => wr
    have HVr := Lib.hid hv
    clear hv
    by_cases hlt : k < n'
    · obtain ⟨x, hx⟩ : ∃ x, ids[k]? = some x := ⟨ids[k]'(by have := HLEN.out; omega), List.getElem?_eq_getElem _⟩
      have hxm := List.mem_of_getElem? hx
      obtain ⟨f', rfl⟩ : ∃ f', f = f' + 1 := by
        cases f with
        | zero => have := HOK.out; rw [OkF] at this; rw [this] at hxm; cases hxm
        | succ f' => exact ⟨f', rfl⟩
      obtain ⟨⟨nd, hnd⟩, hokk⟩ := HOK.out x hxm
      rw [kidsV_of hnd] at hokk
      obtain ⟨i, hix, hgi, hie⟩ := ndOf_some hnd
      have hin := ixOf_lt hix
      rw [HNN.out.1] at hin
      obtain ⟨b, o, hA, _, hb, Vl, hVl⟩ := HNN.out.all (by omega)
      have hat := (hVl i nd hgi).1.c5
      have hlf := (hVl i nd hgi).2
      generalize Vl i = L at hat hlf
      obtain ⟨_, ⟨Ak, nk, ck⟩, _⟩ := L
      have hkrow : RowF w0 g0 Ak nk ck nd.kids := RowF.of hlf.k hh (.inr hg)
      obtain ⟨bi, oi, rfl, hbi, hbig, hcell⟩ := HRW.out (by omega)
      have hkc := (grown_cell (HV.out.grown _ _ HVr.out.inv) hbi hbig).trans (hcell k _ (intCells_get hx))
      have htk : ids.take (k + 1) = ids.take k ++ [x] := by rw [List.take_add_one, hx]; rfl
      have hpr : pre nds (f' + 1) d (ids.take (k + 1)) = pre nds (f' + 1) d (ids.take k) ++ [(nd.id, d)] ++ pre nds f' (d + 1) nd.kids := by
        rw [htk, pre_append, pre_cons, pre_nil, List.append_nil, kidsV_of hnd, hie]; simp
      have hprl : (pre nds (f' + 1) d (ids.take (k + 1))).length ≤ (pre nds (f' + 1) d ids).length := by
        conv => rhs; rw [← List.take_append_drop (k + 1) ids]
        rw [pre_append, List.length_append]; omega
      have hll := hprl
      rw [hpr] at hll
      simp only [List.length_append, List.length_singleton] at hll
      have hMM := HM.out
      subst hA
      have c0 := HVr.out.m.cell 0
      have c1 := HVr.out.m.cell 1
      simp at c0 c1
      have HNo := Lib.hid (node_any wr hi next x (some ⟨b, o, none⟩) n c nds (grown_nodes (HV.out.grown _ _ HVr.out.inv) HNN.out hh hg) (Nat.le_trans hh (HV.out.grown _ _ HVr.out.inv).size) hr hn (.pointer (some ⟨b, o + i * 7, none⟩)) (by rw [hix]; exact ⟨b, o, rfl, rfl⟩))
      have HCA : Hid (∀ Y, OV next (some ⟨b, o, none⟩) n c g1 g2 g3 F caps Inv (l ++ pre nds (f' + 1) d (ids.take k)) Y → Calls Try.prog F (#[.pointer (some ⟨b, o + i * 7, none⟩), .int .i64 d] ++ caps) Y fun e Y' => e = .returned (.tuple #[]) ∧ OV next (some ⟨b, o, none⟩) n c g1 g2 g3 F caps Inv (l ++ pre nds (f' + 1) d (ids.take k) ++ [(nd.id, d)]) Y') := Lib.hid fun Y hY =>
        (HV.out.call Y _ i nd d b o hY.inv (by simp only [List.length_append]; omega) hgi rfl (by omega)).mono fun e Y' ⟨h1, h2, h3⟩ => ⟨h1, hY.step h2 h3⟩
      have HIH : Hid (∀ (Y : World) (l' : List (Int × Nat)), OV next (some ⟨b, o, none⟩) n c g1 g2 g3 F caps Inv (l ++ pre nds (f' + 1) d (ids.take k) ++ [(nd.id, d)]) Y → Calls Try.prog 120 #[.slice Ak nk ck, .int .i64 (d + 1), .pointer (some ⟨g1, 0, none⟩), .pointer (some ⟨g2, 0, none⟩), .pointer (some ⟨g3, 0, none⟩)] Y
          fun e X' => e = .returned (.tuple #[]) ∧ OV next (some ⟨b, o, none⟩) n c g1 g2 g3 F caps Inv (l ++ pre nds (f' + 1) d (ids.take k) ++ [(nd.id, d)] ++ pre nds f' (d + 1) nd.kids) X') := Lib.hid fun Y _ hY => by
        have := HIHs.out f' (by omega) Y _ nd.kids Ak nk ck (d + 1) hY hokk hkrow (by simp only [List.length_append, List.length_singleton]; omega) (by omega)
        rw [show ((d + 1 : Nat) : Int) = (d : Int) + 1 from by omega] at this
        exact this
      have HSof : Hid (∀ Y l', OV next (some ⟨b, o, none⟩) n c g1 g2 g3 F caps Inv l' Y → Y.cell? ⟨g3, 0, none⟩ = some (.func (.func 120) #[] #[.pointer (some ⟨g1, 0, none⟩), .pointer (some ⟨g2, 0, none⟩), .pointer (some ⟨g3, 0, none⟩)]) ∧ Y.cell? ⟨b, o + i * 7 + 5, none⟩ = some (.slice Ak nk ck)) := Lib.hid fun Y l' hY => ⟨(hY.d.cell 0).trans rfl, (grown_cell (HV.out.grown _ _ hY.inv) (by omega) (by omega)).trans hat⟩
      have HPR : Hid (l ++ pre nds (f' + 1) d (ids.take (k + 1)) = l ++ pre nds (f' + 1) d (ids.take k) ++ [(nd.id, d)] ++ pre nds f' (d + 1) nd.kids) := Lib.hid (by rw [hpr]; simp only [List.append_assoc])
      have hwr : IntKind.i64.wrap ((d : Int) + 1) = (d : Int) + 1 := IntWalk.i64_in _ (by omega)
      clear hx hxm hnd hokk hix hgi hie hat hlf hkrow hcell htk hpr hprl hll hMM hVl HM HIHs HOK HRW
      go_wp2_with (first | (go_at_call 79; go_must (refine HNo.out.mono ?_; rintro e w2 ⟨rfl, hb2⟩; have hv2 := HVr.out.after HV.out hb2; have v2 := hv2.v.cell 0; simp at v2; have HV2 := Lib.hid hv2; clear hb2 hv2)) | (with_reducible refine (HCA.out _ HV2.out).mono ?_; go_must (rintro e wr3 ⟨rfl, hv4⟩; have HV4 := Lib.hid hv4; clear hv4)))
      refine wp_region_held_tail 7 (fun w' => w'.cell? ⟨g3, 0, none⟩ = some (.func (.func 120) #[] #[.pointer (some ⟨g1, 0, none⟩), .pointer (some ⟨g2, 0, none⟩), .pointer (some ⟨g3, 0, none⟩)]) ∧ w'.cell? ⟨b, o + i * 7 + 5, none⟩ = some (.slice Ak nk ck)) (by kernel_rfl) (by kernel_rfl) ?hSt (fun hHeld => ?qt0)
      case hSt => exact HSof.out _ _ (HV4.out.after HV.out (below_drew1 _))
      case qt0 =>
        simp only [List.take_succ_cons, List.take_zero, List.drop_succ_cons, List.drop_zero]
        refine wpAnyH_take (i := 0) (v := (.func (.func 120) #[] #[.pointer (some ⟨g1, 0, none⟩), .pointer (some ⟨g2, 0, none⟩), .pointer (some ⟨g3, 0, none⟩)])) rfl (by kernel_rfl) (by kernel_rfl) (by kernel_rfl) (fun _ _ _ h => h) (Or.inl ⟨by rfl, ?yt_1⟩) (by assumption) ?qt_1
        case yt_1 => (intro w hSw; (try dsimp only at hSw); go_simp)
        case qt_1 =>
          (try simp only [Act.put]); (try simp only [List.setIfInBounds_toArray])
          refine wpAnyH_take (i := 1) (v := (.pointer (some ⟨b, o + i * 7, none⟩))) rfl (by kernel_rfl) (by kernel_rfl) (by kernel_rfl) (fun _ _ _ h => h) (Or.inl ⟨by rfl, ?yt_2⟩) (by assumption) ?qt_2
          case yt_2 => (intro w hSw; (try dsimp only at hSw); go_simp)
          case qt_2 =>
            (try simp only [Act.put]); (try simp only [List.setIfInBounds_toArray])
            refine wpAnyH_take (i := 2) (v := (.pointer (some ⟨b, o + i * 7, none⟩))) rfl (by kernel_rfl) (by kernel_rfl) (by kernel_rfl) (fun _ _ _ h => h) (Or.inl ⟨by rfl, ?yt_3⟩) (by assumption) ?qt_3
            case yt_3 => (intro w hSw; (try dsimp only at hSw); go_simp)
            case qt_3 =>
              (try simp only [Act.put]); (try simp only [List.setIfInBounds_toArray])
              refine wpAnyH_take (i := 3) (v := (.pointer (some ⟨b, o + i * 7 + 5, none⟩))) rfl (by kernel_rfl) (by kernel_rfl) (by kernel_rfl) (fun _ _ _ h => h) (Or.inl ⟨by rfl, ?yt_4⟩) (by assumption) ?qt_4
              case yt_4 => (intro w hSw; (try dsimp only at hSw); go_simp)
              case qt_4 =>
                (try simp only [Act.put]); (try simp only [List.setIfInBounds_toArray])
                refine wpAnyH_take (i := 4) (v := (.slice Ak nk ck)) rfl (by kernel_rfl) (by kernel_rfl) (by kernel_rfl) (fun _ _ _ h => h) (Or.inl ⟨by rfl, ?yt_5⟩) (by assumption) ?qt_5
                case yt_5 => (intro w hSw; (try dsimp only at hSw); go_simp)
                case qt_5 =>
                  (try simp only [Act.put]); (try simp only [List.setIfInBounds_toArray])
                  refine wpAnyH_take (i := 5) (v := (.int .i64 d)) rfl (by kernel_rfl) (by kernel_rfl) (by kernel_rfl) (fun _ _ _ h => h) (Or.inl ⟨by rfl, ?yt_6⟩) (by assumption) ?qt_6
                  case yt_6 => (intro w hSw; (try dsimp only at hSw); go_simp)
                  case qt_6 =>
                    (try simp only [Act.put]); (try simp only [List.setIfInBounds_toArray])
                    refine wpAnyH_take (i := 6) (v := (.int .i64 (d + 1))) rfl (by kernel_rfl) (by kernel_rfl) (by kernel_rfl) (fun _ _ _ h => h) (Or.inl ⟨by rfl, ?yt_7⟩) (by assumption) ?qt_7
                    case yt_7 => (intro w hSw; (try dsimp only at hSw); go_simp)
                    case qt_7 =>
                      (try simp only [Act.put]); (try simp only [List.setIfInBounds_toArray])
                      refine wpAnyH_done (by kernel_rfl) ?_ _
                      obtain ⟨hs0, hs1⟩ := hHeld
                      show wpList _ _ _ _ _ _
                      go_wp2_with (go_at_call 120; go_must (refine (HIH.out _ [] (HV4.out.after HV.out (below_drew1 _))).mono ?_; rintro e w5 ⟨rfl, hv5⟩; have HV5 := Lib.hid hv5; clear hv5))
                      go_roundw
                      case measure => simp only [intOf]; omega
                      case rel => exact ⟨k + 1, by omega, by simp, by rw [HPR.out]; exact HV5.out⟩
    · have hkn : k = n' := by omega
      subst hkn
      have HF : Hid (ids.take k = ids) := Lib.hid (List.take_of_length_le (by have := HLEN.out; omega))
      go_wp2_with fail
      (try simp only [Exit.inBlock, Exit.then])
      first | refine bodyPost_ret (results_none (by kernel_rfl) _ _ _) rfl ?_ | refine bodyPost_end (results_none (by kernel_rfl) _ _ _) rfl ?_
      rw [HF.out] at HVr
      exact ⟨rfl, HVr.out⟩
end Go.Proofs.Ytmjkcbhkmkofjaa

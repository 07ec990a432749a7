/-
  WALKS: what is done at each node: a function value that is called at nodes in document order.
  WALKS: over.
  WALKS: the closures that list the nodes at which they are called.
  WALKS: plain of the document.
  WALKS: below of the document.
  WALKS: Right of the document.
  WALKS: two nodes are the same, told by the document and by the program.
  WALKS: two models are the same, told by the document and by the program.
  WALKS: is a lent model as it was, with its marks?
  WALKS: great, check, New; and laws for a call and an alloc as steps of a region that draws its order.
-/
import Derived.Test.YtjjlofaejpnnnaaGreatDoorZO20
import Derived.Deep.DrawnRows
namespace Go.Proofs.YtjjlofaejpnnnaaGreatDoor
open Go Go.RowKit Go.Sort
set_option linter.unusedVariables false
attribute [local go_sem ↓] Go.wp_at_zero Go.wp_at_succ
theorem below_drew1 (w : World) : Below w.heap.size w w.drew := ⟨rfl, rfl, rfl, Nat.le_refl _, fun _ _ => rfl⟩
/-- numbers in memory that is left alone: it was there at w0, and is not the block g0 -/
def RowF (w0 : World) (g0 : Nat) (A : Option Addr) (n c : Nat) (ids : List Int) : Prop :=
  ids.length = n ∧ n ≤ c ∧ c ≤ maxLen ∧ (0 < n → ∃ b o, A = some ⟨b, o, none⟩ ∧ b < w0.heap.size ∧ b ≠ g0 ∧ ∀ j u, (intCells ids)[j]? = some u → w0.cell? ⟨b, o + j, none⟩ = some u)
theorem RowF.of {w0 : World} {g0 lo hi n c : Nat} {A : Option Addr} {ids : List Int} (h : Row w0 lo hi 1 A n c (intCells ids)) (hh : hi ≤ w0.heap.size) (hg : g0 < lo ∨ hi ≤ g0) : RowF w0 g0 A n c ids := by
  refine ⟨by have := h.1; rw [intCells_length] at this; omega, h.2.1, h.2.2.1, fun hn => ?_⟩
  obtain ⟨b, o, e, h1, h2, hc⟩ := h.2.2.2 hn
  exact ⟨b, o, e, by omega, by omega, hc⟩
/-- blocks of other types stay -/
def Keeps (X X' : World) : Prop := X.heap.size ≤ X'.heap.size ∧ ∀ g t cs, t ≠ 3 → t ≠ 40 → Blk X g t cs → Blk X' g t cs
theorem Keeps.of {X X' : World} (h : Below X.heap.size X X') : Keeps X X' := ⟨h.size, fun g t cs _ _ hb => hb.after h⟩
theorem Keeps.trans {X X' X'' : World} (h : Keeps X X') (h' : Keeps X' X'') : Keeps X X'' := ⟨Nat.le_trans h.1 h'.1, fun g t cs h1 h2 hb => h'.2 g t cs h1 h2 (h.2 g t cs h1 h2 hb)⟩
/-- a function value that is called at nodes: what holds of the world behind the nodes so far -/
structure Visit (w0 : World) (g0 M : Nat) (A : Option Addr) (nds : List Nd) (F : FuncId) (caps : Array Value) (Inv : World → List (Int × Nat) → Prop) : Prop where
  enters : ∀ args w, Sem.run Tryz.prog (callFunc F args) w = .ok (.enter F args) w
  grown : ∀ X l, Inv X l → w0.grownBy X (some g0)
  after : ∀ X X' l, Inv X l → Below X.heap.size X X' → Inv X' l
  call : ∀ X l (i : Nat) nd (d : Nat) b o, Inv X l → l.length < M → nds[i]? = some nd → A = some ⟨b, o, none⟩ → d ≤ 65 →
    Calls Tryz.prog F (#[.pointer (some ⟨b, o + i * 7, none⟩), .int .i64 d] ++ caps) X fun e X' => e = .returned (.tuple #[]) ∧ Inv X' (l ++ [(nd.id, d)]) ∧ Keeps X X'
/-- .. and the boxes of the walk -/
structure OV (next : Int) (A : Option Addr) (n c : Nat) (g1 g2 g3 : Nat) (F : FuncId) (caps : Array Value) (Inv : World → List (Int × Nat) → Prop) (l : List (Int × Nat)) (X : World) : Prop where
  inv : Inv X l
  m : Blk X g1 25 #[.int .i64 next, .slice A n c]
  v : Blk X g2 68 #[.func (.func F) #[] caps]
  d : Blk X g3 107 #[.func (.func 73) #[] #[.pointer (some ⟨g1, 0, none⟩), .pointer (some ⟨g2, 0, none⟩), .pointer (some ⟨g3, 0, none⟩)]]
section
variable {w0 : World} {g0 M : Nat} {A : Option Addr} {nds : List Nd} {F : FuncId} {caps : Array Value} {Inv : World → List (Int × Nat) → Prop} {next : Int} {n c g1 g2 g3 : Nat} {l : List (Int × Nat)} {X X' : World}
theorem OV.after (V : Visit w0 g0 M A nds F caps Inv) (h : OV next A n c g1 g2 g3 F caps Inv l X) (hb : Below X.heap.size X X') : OV next A n c g1 g2 g3 F caps Inv l X' :=
  ⟨V.after _ _ _ h.inv hb, h.m.after hb, h.v.after hb, h.d.after hb⟩
theorem OV.step {l' : List (Int × Nat)} (h : OV next A n c g1 g2 g3 F caps Inv l X) (hi : Inv X' l') (hk : Keeps X X') : OV next A n c g1 g2 g3 F caps Inv l' X' :=
  ⟨hi, hk.2 _ _ _ (by decide) (by decide) h.m, hk.2 _ _ _ (by decide) (by decide) h.v, hk.2 _ _ _ (by decide) (by decide) h.d⟩
theorem grown_cell {b o : Nat} (h : w0.grownBy X (some g0)) (hb : b < w0.heap.size) (hne : b ≠ g0) : X.cell? ⟨b, o, none⟩ = w0.cell? ⟨b, o, none⟩ := only_cell h hb hne
theorem grown_nodes {lo hi : Nat} (h : w0.grownBy X (some g0)) (hn : NodesIn w0 lo hi A n c nds) (hh : hi ≤ w0.heap.size) (hg : hi ≤ g0) : NodesIn X lo hi A n c nds :=
  hn.keep fun b o hb => only_cell h (by omega) (by omega)
end
set_option maxRecDepth 100000 in
set_option maxHeartbeats 3200000 in
theorem down_any (w0 : World) (hi g0 M : Nat) (next : Int) (A : Option Addr) (n c : Nat) (nds : List Nd) (F : FuncId) (caps : Array Value) (Inv : World → List (Int × Nat) → Prop) (V : Visit w0 g0 M A nds F caps Inv)
    (hN : NodesIn w0 0 hi A n c nds) (hh : hi ≤ w0.heap.size) (hg : hi ≤ g0) (hr : Rise nds) (hn : n ≤ 4096) (g1 g2 g3 : Nat) : ∀ (f : Nat) (X : World) (l : List (Int × Nat)) (ids : List Int) (A' : Option Addr) (n' c' d : Nat),
    OV next A n c g1 g2 g3 F caps Inv l X → OkF nds f ids → RowF w0 g0 A' n' c' ids → l.length + (pre nds f d ids).length ≤ M → d + f ≤ 66 →
    Calls Tryz.prog 73 #[.slice A' n' c', .int .i64 d, .pointer (some ⟨g1, 0, none⟩), .pointer (some ⟨g2, 0, none⟩), .pointer (some ⟨g3, 0, none⟩)] X
      fun e X' => e = .returned (.tuple #[]) ∧ OV next A n c g1 g2 g3 F caps Inv (l ++ pre nds f d ids) X' := by
  intro f
  induction f using Nat.strongRecOn with
  | _ f ih =>
  intro X l ids A' n' c' d hO hok hrow hM hd
  have hlen := hrow.1
  have hnc' := hrow.2.1
  have hc' := hrow.2.2.1
  have hrw := hrow.2.2.2
  unfold maxLen at hc'
  have HLEN := Lib.hid hlen
  have HOK := Lib.hid hok
  have HRW := Lib.hid hrw
  have HO0 := Lib.hid hO
  have HIHs := Lib.hid ih
  have HM := Lib.hid hM
  have hen := V.enters
  have HV := Lib.hid V
  have HNN := Lib.hid hN
  clear hlen hok hrw hrow hO ih hM V hN
  go_enter Tryz.func73, Tryz.ntmps73
  go_wp2_with fail
  go_loopw [12] (fun i wr => ∃ k : Nat, k ≤ n' ∧ i = .int .i64 k ∧ OV next A n c g1 g2 g3 F caps Inv (l ++ pre nds f d (ids.take k)) wr) (fun i _ => n' - (intOf i).toNat)
  case atStart => exact ⟨0, Nat.zero_le _, rfl, by rw [List.take_zero, pre_nil, List.append_nil]; exact HO0.out⟩
  case round =>
    obtain ⟨k, hk, rfl, hv⟩ := hrel
    rename World => wr
    have HVr := Lib.hid hv
    clear hv
    by_cases hlt : k < n'
    · obtain ⟨x, hx⟩ : ∃ x, ids[k]? = some x := ⟨ids[k]'(by have := HLEN.out; omega), List.getElem?_eq_getElem _⟩
      have hxm := List.mem_of_getElem? hx
      obtain ⟨f', rfl⟩ : ∃ f', f = f' + 1 := by
        cases f with
        | zero => have := HOK.out; rw [OkF] at this; rw [this] at hxm; cases hxm
        | succ f' => exact ⟨f', rfl⟩
      obtain ⟨⟨nd, hnd⟩, hokk⟩ := HOK.out x hxm
      rw [kidsV_of hnd] at hokk
      obtain ⟨i, hix, hgi, hie⟩ := ndOf_some hnd
      have hin := ixOf_lt hix
      rw [HNN.out.1] at hin
      obtain ⟨b, o, hA, _, hb, Vl, hVl⟩ := HNN.out.all (by omega)
      have hat := (hVl i nd hgi).1.c5
      have hlf := (hVl i nd hgi).2
      generalize Vl i = L at hat hlf
      obtain ⟨_, ⟨Ak, nk, ck⟩, _⟩ := L
      have hkrow : RowF w0 g0 Ak nk ck nd.kids := RowF.of hlf.k hh (.inr hg)
      obtain ⟨bi, oi, rfl, hbi, hbig, hcell⟩ := HRW.out (by omega)
      have hkc := (grown_cell (HV.out.grown _ _ HVr.out.inv) hbi hbig).trans (hcell k _ (intCells_get hx))
      have htk : ids.take (k + 1) = ids.take k ++ [x] := by rw [List.take_add_one, hx]; rfl
      have hpr : pre nds (f' + 1) d (ids.take (k + 1)) = pre nds (f' + 1) d (ids.take k) ++ [(nd.id, d)] ++ pre nds f' (d + 1) nd.kids := by
        rw [htk, pre_append, pre_cons, pre_nil, List.append_nil, kidsV_of hnd, hie]; simp
      have hprl : (pre nds (f' + 1) d (ids.take (k + 1))).length ≤ (pre nds (f' + 1) d ids).length := by
        conv => rhs; rw [← List.take_append_drop (k + 1) ids]
        rw [pre_append, List.length_append]; omega
      have hll := hprl
      rw [hpr] at hll
      simp only [List.length_append, List.length_singleton] at hll
      have hMM := HM.out
      subst hA
      have c0 := HVr.out.m.cell 0
      have c1 := HVr.out.m.cell 1
      simp at c0 c1
      have HNo := Lib.hid (node_any wr hi next x (some ⟨b, o, none⟩) n c nds (grown_nodes (HV.out.grown _ _ HVr.out.inv) HNN.out hh hg) (Nat.le_trans hh (HV.out.grown _ _ HVr.out.inv).size) hr hn (.pointer (some ⟨b, o + i * 7, none⟩)) (by rw [hix]; exact ⟨b, o, rfl, rfl⟩))
      have HCA : Hid (∀ Y, OV next (some ⟨b, o, none⟩) n c g1 g2 g3 F caps Inv (l ++ pre nds (f' + 1) d (ids.take k)) Y → Calls Tryz.prog F (#[.pointer (some ⟨b, o + i * 7, none⟩), .int .i64 d] ++ caps) Y fun e Y' => e = .returned (.tuple #[]) ∧ OV next (some ⟨b, o, none⟩) n c g1 g2 g3 F caps Inv (l ++ pre nds (f' + 1) d (ids.take k) ++ [(nd.id, d)]) Y') := Lib.hid fun Y hY =>
        (HV.out.call Y _ i nd d b o hY.inv (by simp only [List.length_append]; omega) hgi rfl (by omega)).mono fun e Y' ⟨h1, h2, h3⟩ => ⟨h1, hY.step h2 h3⟩
      have HIH : Hid (∀ (Y : World) (l' : List (Int × Nat)), OV next (some ⟨b, o, none⟩) n c g1 g2 g3 F caps Inv (l ++ pre nds (f' + 1) d (ids.take k) ++ [(nd.id, d)]) Y → Calls Tryz.prog 73 #[.slice Ak nk ck, .int .i64 (d + 1), .pointer (some ⟨g1, 0, none⟩), .pointer (some ⟨g2, 0, none⟩), .pointer (some ⟨g3, 0, none⟩)] Y
          fun e X' => e = .returned (.tuple #[]) ∧ OV next (some ⟨b, o, none⟩) n c g1 g2 g3 F caps Inv (l ++ pre nds (f' + 1) d (ids.take k) ++ [(nd.id, d)] ++ pre nds f' (d + 1) nd.kids) X') := Lib.hid fun Y _ hY => by
        have := HIHs.out f' (by omega) Y _ nd.kids Ak nk ck (d + 1) hY hokk hkrow (by simp only [List.length_append, List.length_singleton]; omega) (by omega)
        rw [show ((d + 1 : Nat) : Int) = (d : Int) + 1 from by omega] at this
        exact this
      have HSof : Hid (∀ Y l', OV next (some ⟨b, o, none⟩) n c g1 g2 g3 F caps Inv l' Y → Y.cell? ⟨g3, 0, none⟩ = some (.func (.func 73) #[] #[.pointer (some ⟨g1, 0, none⟩), .pointer (some ⟨g2, 0, none⟩), .pointer (some ⟨g3, 0, none⟩)]) ∧ Y.cell? ⟨b, o + i * 7 + 5, none⟩ = some (.slice Ak nk ck)) := Lib.hid fun Y l' hY => ⟨(hY.d.cell 0).trans rfl, (grown_cell (HV.out.grown _ _ hY.inv) (by omega) (by omega)).trans hat⟩
      have HPR : Hid (l ++ pre nds (f' + 1) d (ids.take (k + 1)) = l ++ pre nds (f' + 1) d (ids.take k) ++ [(nd.id, d)] ++ pre nds f' (d + 1) nd.kids) := Lib.hid (by rw [hpr]; simp only [List.append_assoc])
      have hwr : IntKind.i64.wrap ((d : Int) + 1) = (d : Int) + 1 := IntWalk.i64_in _ (by omega)
      clear hx hxm hnd hokk hix hgi hie hat hlf hkrow hcell htk hpr hprl hll hMM hVl HM HIHs HOK HRW
      go_wp2_with (first | (go_at_call 59; go_must (refine HNo.out.mono ?_; rintro e w2 ⟨rfl, hb2⟩; have hv2 := HVr.out.after HV.out hb2; have v2 := hv2.v.cell 0; simp at v2; have HV2 := Lib.hid hv2; clear hb2 hv2)) | (with_reducible refine (HCA.out _ HV2.out).mono ?_; go_must (rintro e wr3 ⟨rfl, hv4⟩; have HV4 := Lib.hid hv4; clear hv4)))
      refine wp_region_held_tail 7 (fun w' => w'.cell? ⟨g3, 0, none⟩ = some (.func (.func 73) #[] #[.pointer (some ⟨g1, 0, none⟩), .pointer (some ⟨g2, 0, none⟩), .pointer (some ⟨g3, 0, none⟩)]) ∧ w'.cell? ⟨b, o + i * 7 + 5, none⟩ = some (.slice Ak nk ck)) (by kernel_rfl) (by kernel_rfl) ?hSt (fun hHeld => ?qt0)
      case hSt => exact HSof.out _ _ (HV4.out.after HV.out (below_drew1 _))
      case qt0 =>
        simp only [List.take_succ_cons, List.take_zero, List.drop_succ_cons, List.drop_zero]
        refine wpAnyH_take (i := 0) (v := (.func (.func 73) #[] #[.pointer (some ⟨g1, 0, none⟩), .pointer (some ⟨g2, 0, none⟩), .pointer (some ⟨g3, 0, none⟩)])) rfl (by kernel_rfl) (by kernel_rfl) (by kernel_rfl) (fun _ _ _ h => h) (Or.inl ⟨by rfl, ?yt_1⟩) (by assumption) ?qt_1
        case yt_1 => (intro w hSw; (try dsimp only at hSw); go_simp)
        case qt_1 =>
          (try simp only [Act.put]); (try simp only [List.setIfInBounds_toArray])
          refine wpAnyH_take (i := 1) (v := (.pointer (some ⟨b, o + i * 7, none⟩))) rfl (by kernel_rfl) (by kernel_rfl) (by kernel_rfl) (fun _ _ _ h => h) (Or.inl ⟨by rfl, ?yt_2⟩) (by assumption) ?qt_2
          case yt_2 => (intro w hSw; (try dsimp only at hSw); go_simp)
          case qt_2 =>
            (try simp only [Act.put]); (try simp only [List.setIfInBounds_toArray])
            refine wpAnyH_take (i := 2) (v := (.pointer (some ⟨b, o + i * 7, none⟩))) rfl (by kernel_rfl) (by kernel_rfl) (by kernel_rfl) (fun _ _ _ h => h) (Or.inl ⟨by rfl, ?yt_3⟩) (by assumption) ?qt_3
            case yt_3 => (intro w hSw; (try dsimp only at hSw); go_simp)
            case qt_3 =>
              (try simp only [Act.put]); (try simp only [List.setIfInBounds_toArray])
              refine wpAnyH_take (i := 3) (v := (.pointer (some ⟨b, o + i * 7 + 5, none⟩))) rfl (by kernel_rfl) (by kernel_rfl) (by kernel_rfl) (fun _ _ _ h => h) (Or.inl ⟨by rfl, ?yt_4⟩) (by assumption) ?qt_4
              case yt_4 => (intro w hSw; (try dsimp only at hSw); go_simp)
              case qt_4 =>
                (try simp only [Act.put]); (try simp only [List.setIfInBounds_toArray])
                refine wpAnyH_take (i := 4) (v := (.slice Ak nk ck)) rfl (by kernel_rfl) (by kernel_rfl) (by kernel_rfl) (fun _ _ _ h => h) (Or.inl ⟨by rfl, ?yt_5⟩) (by assumption) ?qt_5
                case yt_5 => (intro w hSw; (try dsimp only at hSw); go_simp)
                case qt_5 =>
                  (try simp only [Act.put]); (try simp only [List.setIfInBounds_toArray])
                  refine wpAnyH_take (i := 5) (v := (.int .i64 d)) rfl (by kernel_rfl) (by kernel_rfl) (by kernel_rfl) (fun _ _ _ h => h) (Or.inl ⟨by rfl, ?yt_6⟩) (by assumption) ?qt_6
                  case yt_6 => (intro w hSw; (try dsimp only at hSw); go_simp)
                  case qt_6 =>
                    (try simp only [Act.put]); (try simp only [List.setIfInBounds_toArray])
                    refine wpAnyH_take (i := 6) (v := (.int .i64 (d + 1))) rfl (by kernel_rfl) (by kernel_rfl) (by kernel_rfl) (fun _ _ _ h => h) (Or.inl ⟨by rfl, ?yt_7⟩) (by assumption) ?qt_7
                    case yt_7 => (intro w hSw; (try dsimp only at hSw); go_simp)
                    case qt_7 =>
                      (try simp only [Act.put]); (try simp only [List.setIfInBounds_toArray])
                      refine wpAnyH_done (by kernel_rfl) ?_ _
                      obtain ⟨hs0, hs1⟩ := hHeld
                      show wpList _ _ _ _ _ _
                      go_wp2_with (go_at_call 73; go_must (refine (HIH.out _ [] (HV4.out.after HV.out (below_drew1 _))).mono ?_; rintro e w5 ⟨rfl, hv5⟩; have HV5 := Lib.hid hv5; clear hv5))
                      go_roundw
                      case measure => simp only [intOf]; omega
                      case rel => exact ⟨k + 1, by omega, by simp, by rw [HPR.out]; exact HV5.out⟩
    · have hkn : k = n' := by omega
      subst hkn
      have HF : Hid (ids.take k = ids) := Lib.hid (List.take_of_length_le (by have := HLEN.out; omega))
      go_wp2_with fail
      (try simp only [Exit.inBlock, Exit.then])
      first | refine bodyPost_ret (results_none (by kernel_rfl) _ _ _) rfl ?_ | refine bodyPost_end (results_none (by kernel_rfl) _ _ _) rfl ?_
      rw [HF.out] at HVr
      exact ⟨rfl, HVr.out⟩
end Go.Proofs.YtjjlofaejpnnnaaGreatDoor
namespace Go.Proofs.YtjjlofaejpnnnaaGreatDoor
open Go Go.RowKit Go.Sort
set_option linter.unusedVariables false
attribute [local go_sem ↓] Go.wp_at_zero Go.wp_at_succ
theorem run_store_func' {P : Program} {w : World} {a : Addr} (f : Fn) (r : _) (caps : Array Value) (m : _) : (store a (.func f r caps) m).run P w = stored P w a (.func f r caps) m := run_store P w a _ m rfl
attribute [local go_sem] run_store_func'
set_option maxRecDepth 100000 in
set_option maxHeartbeats 3200000 in
theorem over_any (w0 : World) (hi g0 M : Nat) (next : Int) (A : Option Addr) (n c : Nat) (nds : List Nd) (F : FuncId) (caps : Array Value) (Inv : World → List (Int × Nat) → Prop) (V : Visit w0 g0 M A nds F caps Inv)
    (hN : NodesIn w0 0 hi A n c nds) (hh : hi ≤ w0.heap.size) (hg : hi ≤ g0) (hr : Rise nds) (hn : n ≤ 4096) (hI : Inv w0 []) (f : Nat) (ids : List Int) (A' : Option Addr) (n' c' : Nat)
    (hok : OkF nds f ids) (hrow : RowF w0 g0 A' n' c' ids) (hM : (pre nds f 1 ids).length ≤ M) (hf : f ≤ 65) :
    Calls Tryz.prog 36 #[.agg #[.int .i64 next, .slice A n c], .slice A' n' c', .func (.func F) #[] caps] w0 fun e X' => e = .returned (.tuple #[]) ∧ Inv X' (pre nds f 1 ids) := by
  have HDo := Lib.hid (down_any w0 hi g0 M next A n c nds F caps Inv V hN hh hg hr hn w0.heap.size (w0.heap.size + 1) (w0.heap.size + 1 + 1))
  have hB3 : Blk (((w0.alloc (.cells #[.int .i64 next, .slice A n c] 25)).alloc (.cells #[.func (.func F) #[] caps] 68)).alloc (.cells #[.nilFunc] 107)) (w0.heap.size + 1 + 1) 107 #[.nilFunc] := Blk.new' (by simp)
  have HO : Hid (OV next A n c w0.heap.size (w0.heap.size + 1) (w0.heap.size + 1 + 1) F caps Inv [] ((((w0.alloc (.cells #[.int .i64 next, .slice A n c] 25)).alloc (.cells #[.func (.func F) #[] caps] 68)).alloc (.cells #[.nilFunc] 107)).setCell ⟨w0.heap.size + 1 + 1, 0, none⟩ (.func (.func 73) #[] #[.pointer (some ⟨w0.heap.size, 0, none⟩), .pointer (some ⟨w0.heap.size + 1, 0, none⟩), .pointer (some ⟨w0.heap.size + 1 + 1, 0, none⟩)]))) := Lib.hid (by
    have hbel : Below w0.heap.size w0 (((w0.alloc (.cells #[.int .i64 next, .slice A n c] 25)).alloc (.cells #[.func (.func F) #[] caps] 68)).alloc (.cells #[.nilFunc] 107)) := below_more (below_more (below_more (Below.refl _ _) _) _) _
    refine ⟨V.after _ _ _ hI (hbel.setCell (p := ⟨w0.heap.size + 1 + 1, 0, none⟩) (by simp; omega) _), ?_, ?_, ?_⟩
    · exact Blk.far (((Blk.new w0 _ _).alloc _).alloc _) (p := ⟨w0.heap.size + 1 + 1, 0, none⟩) (by simp; omega) _
    · exact Blk.far ((Blk.new' (by simp)).alloc _) (p := ⟨w0.heap.size + 1 + 1, 0, none⟩) (by simp) _
    · exact hB3.set_ 0 _)
  have HB3 := Lib.hid hB3
  clear hB3
  have HOK := Lib.hid hok
  have HRW := Lib.hid hrow
  have HM := Lib.hid hM
  have HV := Lib.hid V
  have HI := Lib.hid hI
  clear hok hrow hM V hI hN
  go_enter Tryz.func36, Tryz.ntmps36
  go_upto_region 2 with (fail)
  generalize (((w0.alloc (.cells #[.int .i64 next, .slice A n c] 25)).alloc (.cells #[.func (.func F) #[] caps] 68)).alloc (.cells #[.nilFunc] 107)) = X3 at HB3 HO ⊢
  have s0 : X3.cell? ⟨w0.heap.size + 1 + 1, 0, none⟩ = some .nilFunc := (HB3.out.cell 0).trans rfl
  have s1 := HB3.out.frozen 0
  have HD0 := Lib.hid (HO.out.d.cell 0)
  go_wp2_with (go_at_call 73; go_must (refine (HDo.out f _ [] ids A' n' c' 1 HO.out HOK.out HRW.out (by have := HM.out; simpa using this) (by omega)).mono ?_; rintro e w5 ⟨rfl, hv5⟩; have HV5 := Lib.hid hv5; clear hv5))
  (try simp only [Exit.inBlock, Exit.then])
  first | refine bodyPost_ret (results_none (by kernel_rfl) _ _ _) rfl ?_ | refine bodyPost_end (results_none (by kernel_rfl) _ _ _) rfl ?_
  exact ⟨rfl, HV5.out.inv⟩
end Go.Proofs.YtjjlofaejpnnnaaGreatDoor
namespace Go.Proofs.YtjjlofaejpnnnaaGreatDoor
open Go Go.RowKit Go.Sort
set_option linter.unusedVariables false
attribute [local go_sem ↓] Go.wp_at_zero Go.wp_at_succ
/-- a box with a list of numbers that grows -/
structure IE (w0 : World) (g0 : Nat) (ov : Value) (X : World) : Prop where
  gr : w0.grownBy X (some g0)
  bx : Blk X g0 40 #[ov]
structure IW (w0 : World) (g0 : Nat) (ov : Value) (r : List Int) (X : World) : Prop where
  e : IE w0 g0 ov X
  own : X.ownsRow w0.heap.size 3 1 ov r.length (intCells r)
def IdsInv (w0 : World) (g0 : Nat) (r : List Int) (X : World) : Prop := ∃ ov, IW w0 g0 ov r X
section
variable {w0 X X' : World} {g0 : Nat} {ov : Value} {r : List Int}
theorem own_base {w : World} {B size n : Nat} {e : TypeId} {v : Value} {xs : List Value} (h : w.ownsRow B e size v n xs) {g : Nat} (hg : v.ownBlock = some g) : B ≤ g := by
  rcases h.2 with ⟨rfl, _⟩ | ⟨g', cap, cur, rfl, hb, _⟩
  · simp [Value.ownBlock] at hg
  · have : g' = g := by simpa [Value.ownBlock] using hg
    omega
theorem IE.after (h : IE w0 g0 ov X) (hb : Below X.heap.size X X') : IE w0 g0 ov X' :=
  ⟨⟨hb.os.trans h.gr.os, hb.tape.trans h.gr.tape, hb.output.trans h.gr.output, Nat.le_trans h.gr.size hb.size, fun k hk hne => (hb.block k (Nat.lt_of_lt_of_le hk h.gr.size)).trans (h.gr.block k hk hne)⟩, h.bx.after hb⟩
theorem IW.after (h : IW w0 g0 ov r X) (hb : Below X.heap.size X X') : IW w0 g0 ov r X' := ⟨h.e.after hb, own_after h.own hb⟩
theorem IdsInv.after (h : IdsInv w0 g0 r X) (hb : Below X.heap.size X X') : IdsInv w0 g0 r X' := by
  obtain ⟨ov, h⟩ := h
  exact ⟨ov, h.after hb⟩
theorem IE.kept (h : IE w0 g0 ov X) (hown : X.ownsRow w0.heap.size 3 1 ov r.length (intCells r)) (hg : X.grownBy X' ov.ownBlock) : IE w0 g0 ov X' :=
  ⟨⟨hg.os.trans h.gr.os, hg.tape.trans h.gr.tape, hg.output.trans h.gr.output, Nat.le_trans h.gr.size hg.size, fun k hk hne =>
    (hg.block k (Nat.lt_of_lt_of_le hk h.gr.size) (fun e => by have := own_base hown e.symm; omega)).trans (h.gr.block k hk hne)⟩, h.bx.grown hg (Ne.symm (own_blk_ne hown h.bx (by decide)))⟩
theorem IW.push {x : Int} {v' : Value} (h : IW w0 g0 ov r X) (hg : X.grownBy X' ov.ownBlock) (hown : X'.ownsRow w0.heap.size 3 1 v' (r.length + 1) (intCells r ++ [.int .i64 x])) : IW w0 g0 v' (r ++ [x]) (X'.setCell ⟨g0, 0, none⟩ v') := by
  have h1 := h.e.kept h.own hg
  refine ⟨⟨only_set h1.gr 0 v', h1.bx.set_ 0 v'⟩, ?_⟩
  rw [List.length_append, List.length_singleton, show intCells (r ++ [x]) = intCells r ++ [.int .i64 x] from by simp [intCells]]
  exact own_other hown h1.bx (by decide) 0 v'
theorem IW.keeps {v' : Value} (h : IW w0 g0 ov r X) (hg : X.grownBy X' ov.ownBlock) : Keeps X (X'.setCell ⟨g0, 0, none⟩ v') := by
  have h1 := h.e.kept h.own hg
  refine ⟨by simpa [World.setCell] using hg.size, fun g t cs ht1 ht2 hb => ?_⟩
  have h2 := hb.grown hg (Ne.symm (own_blk_ne h.own hb (Ne.symm ht1)))
  exact h2.far (p := ⟨g0, 0, none⟩) (h2.ne_ h1.bx ht2) _
theorem IW.start {w : World} (hg : w.heap.size = g0) : IdsInv (w.alloc (.cells #[.slice none 0 0] 40)) g0 [] (w.alloc (.cells #[.slice none 0 0] 40)) :=
  ⟨.slice none 0 0, ⟨⟨World.grownBy.refl _ _, Blk.new' hg.symm⟩, ⟨rfl, .inl ⟨rfl, rfl⟩⟩⟩⟩
end
set_option maxRecDepth 100000 in
set_option maxHeartbeats 3200000 in
theorem visitOrder_any (w0 X : World) (g0 b oi d : Nat) (id : Int) (r : List Int) (h : IdsInv w0 g0 r X) (hl : r.length < 4096) (hb : b < w0.heap.size) (hne : b ≠ g0) (hc : w0.cell? ⟨b, oi, none⟩ = some (.int .i64 id)) :
    Calls Tryz.prog 38 #[.pointer (some ⟨b, oi, none⟩), .int .i64 d, .pointer (some ⟨g0, 0, none⟩)] X fun e X' => e = .returned (.tuple #[]) ∧ IdsInv w0 g0 (r ++ [id]) X' ∧ Keeps X X' := by
  obtain ⟨ov, h⟩ := h
  have HX := Lib.hid (h.after (below_drew1 X))
  have HSof : Hid (∀ Y, IE w0 g0 ov Y → Y.cell? ⟨g0, 0, none⟩ = some ov ∧ Y.cell? ⟨b, oi, none⟩ = some (.int .i64 id)) := Lib.hid fun Y hY => ⟨(hY.bx.cell 0).trans rfl, (grown_cell hY.gr hb hne).trans hc⟩
  obtain ⟨i0, hi0, hz0, hz1, hz2⟩ := info_parts intInfo
  clear h hc
  go_enter Tryz.func38, Tryz.ntmps38
  go_upto_region 0 with (fail)
  refine wp_region_held_tail 7 (fun w' => w'.cell? ⟨g0, 0, none⟩ = some ov ∧ w'.cell? ⟨b, oi, none⟩ = some (.int .i64 id)) (by kernel_rfl) (by kernel_rfl) ?hSt (fun hHeld => ?qt0)
  case hSt => exact HSof.out _ HX.out.e
  case qt0 =>
    simp only [List.take_succ_cons, List.take_zero, List.drop_succ_cons, List.drop_zero]
    refine wpAnyH_take (i := 0) (v := ov) rfl (by kernel_rfl) (by kernel_rfl) (by kernel_rfl) (fun _ _ _ h => h) (Or.inl ⟨by rfl, ?yt_1⟩) (by assumption) ?qt_1
    case yt_1 => (intro w hSw; (try dsimp only at hSw); go_simp)
    case qt_1 =>
      (try simp only [Act.put]); (try simp only [List.setIfInBounds_toArray])
      refine wpAnyH_take (i := 1) (v := (.pointer (some ⟨b, oi, none⟩))) rfl (by kernel_rfl) (by kernel_rfl) (by kernel_rfl) (fun _ _ _ h => h) (Or.inl ⟨by rfl, ?yt_2⟩) (by assumption) ?qt_2
      case yt_2 => (intro w hSw; (try dsimp only at hSw); go_simp)
      case qt_2 =>
        (try simp only [Act.put]); (try simp only [List.setIfInBounds_toArray])
        refine wpAnyH_take (i := 2) (v := (.pointer (some ⟨b, oi, none⟩))) rfl (by kernel_rfl) (by kernel_rfl) (by kernel_rfl) (fun _ _ _ h => h) (Or.inl ⟨by rfl, ?yt_3⟩) (by assumption) ?qt_3
        case yt_3 => (intro w hSw; (try dsimp only at hSw); go_simp)
        case qt_3 =>
          (try simp only [Act.put]); (try simp only [List.setIfInBounds_toArray])
          refine wpAnyH_take (i := 3) (v := (.pointer (some ⟨b, oi, none⟩))) rfl (by kernel_rfl) (by kernel_rfl) (by kernel_rfl) (fun _ _ _ h => h) (Or.inl ⟨by rfl, ?yt_4⟩) (by assumption) ?qt_4
          case yt_4 => (intro w hSw; (try dsimp only at hSw); go_simp)
          case qt_4 =>
            (try simp only [Act.put]); (try simp only [List.setIfInBounds_toArray])
            refine wpAnyH_take (i := 4) (v := (.int .i64 id)) rfl (by kernel_rfl) (by kernel_rfl) (by kernel_rfl) (fun _ _ _ h => h) (Or.inl ⟨by rfl, ?yt_5⟩) (by assumption) ?qt_5
            case yt_5 => (intro w hSw; (try dsimp only at hSw); go_simp)
            case qt_5 =>
              (try simp only [Act.put]); (try simp only [List.setIfInBounds_toArray])
              refine wpAnyH_ready (rs := [5]) (by kernel_rfl) (by simp) ?_
              refine AllReadyH.cons rfl (fun K hK => ?st_6) ?mt_6
              case st_6 =>
                (go_simp; have HXa := Lib.hid (HX.out.after (below_more (Below.refl _ _) (.cells #[.int .i64 id] 3))); have HNb := Lib.hid (Blk.new X.drew 3 #[.int .i64 id]); have hgm : X.drew.heap.size < (X.drew.alloc (.cells #[.int .i64 id] 3)).heap.size := HNb.out.lt)
                refine hK.out _ _ ?kt_6 (fun hHeld => ?qt_6)
                case kt_6 => ((try dsimp only); first | exact HSof.out _ HX2.out | exact HSof.out _ HXa.out.e | exact HSof.out _ HX.out.e)
                case qt_6 =>
                  clear hK K
                  (try simp only [Act.put]); (try simp only [List.setIfInBounds_toArray])
                  refine wpAnyH_ready (rs := [6]) (by kernel_rfl) (by simp) ?_
                  refine AllReadyH.cons rfl (fun K hK => ?st_7) ?mt_7
                  case st_7 =>
                    (refine step_app_mark _ (by rfl) (.tmp 5) (.tmp 10) _ (by rfl) w0.heap.size 3 i0 _ 1 8 Tryz.underlying40 hi0 hz0 hz1 hz2 rfl (by omega) ov r.length (intCells r) (by rfl) HXa.out.own _ [.int .i64 id] (by rfl) HNb.out rfl (by simp [Value.oneCell']) (by unfold maxLen; omega) (by omega) HXa.out.e.gr.size ?_; intro G1 cap1 w2 hown2 _ hca1 hca2 hgr2; have HX2 := Lib.hid (HXa.out.e.kept HXa.out.own hgr2))
                    refine hK.out _ _ ?kt_7 (fun hHeld => ?qt_7)
                    case kt_7 => ((try dsimp only); first | exact HSof.out _ HX2.out | exact HSof.out _ HXa.out.e | exact HSof.out _ HX.out.e)
                    case qt_7 =>
                      clear hK K
                      (try simp only [Act.put]); (try simp only [List.setIfInBounds_toArray])
                      refine wpAnyH_done (by kernel_rfl) ?_ _
                      have k0 := (HX2.out.bx.cell 0).trans (show _ = some ov from rfl)
                      have k1 := HX2.out.bx.frozen 0
                      have HO2 := Lib.hid hown2
                      have HG2 := Lib.hid hgr2
                      clear hown2 hgr2 hHeld
                      show wpList _ _ _ _ _ _
                      go_wp2_with fail
                      (try simp only [Exit.inBlock, Exit.then])
                      first | refine bodyPost_ret (results_none (by kernel_rfl) _ _ _) rfl ?_ | refine bodyPost_end (results_none (by kernel_rfl) _ _ _) rfl ?_
                      exact ⟨rfl, ⟨_, HXa.out.push HG2.out HO2.out⟩, (Keeps.of (below_more (below_drew1 _) _)).trans (HXa.out.keeps HG2.out)⟩
                  case mt_7 =>
                    exact AllReadyH.nil
              case mt_6 =>
                exact AllReadyH.nil
end Go.Proofs.YtjjlofaejpnnnaaGreatDoor
namespace Go.Proofs.YtjjlofaejpnnnaaGreatDoor
open Go Go.RowKit Go.Sort
set_option linter.unusedVariables false
theorem PW.far {w wr : World} {next : Int} {A : Option Addr} {n c : Nat} {nd : Nd} {L : Leaf} (h : PW w next A n c nd L wr) {g : Nat} (hg : w.heap.size + 1 < g) (i : Nat) (u : Value) : PW w next A n c nd L (wr.setCell ⟨g, i, none⟩ u) :=
  ⟨h.md.far (p := ⟨g, i, none⟩) (by show _ ≠ g; omega) u, h.nb.far (p := ⟨g, i, none⟩) (by show _ ≠ g; omega) u, Below.setCell' h.bel (by omega) u⟩
end Go.Proofs.YtjjlofaejpnnnaaGreatDoor
namespace Go.Proofs.YtjjlofaejpnnnaaGreatDoor
open Go Go.RowKit Go.Sort
set_option linter.unusedVariables false
theorem PW.store {w wr : World} {next : Int} {A : Option Addr} {n c : Nat} {nd : Nd} {L : Leaf} (h : PW w next A n c nd L wr) (kd : Nd) (M : Leaf) (nq : Nat) :
    PW w next A n c kd M ((((((((wr.drewN nq).setCell ⟨w.heap.size + 1, 0, none⟩ (.int .i64 kd.id)).setCell ⟨w.heap.size + 1, 1, none⟩ (.string kd.con)).setCell ⟨w.heap.size + 1, 2, none⟩ (.int .i64 kd.par)).setCell ⟨w.heap.size + 1, 3, none⟩ (.string kd.role)).setCell ⟨w.heap.size + 1, 4, none⟩ (.slice M.p.A M.p.n M.p.c)).setCell ⟨w.heap.size + 1, 5, none⟩ (.slice M.k.A M.k.n M.k.c)).setCell ⟨w.heap.size + 1, 6, none⟩ (.slice M.r.A M.r.n M.r.c)) := by
  have hne : w.heap.size ≠ w.heap.size + 1 := by omega
  have h0 := h.drewN nq
  refine ⟨((((((h0.md.far (p := ⟨_, _, none⟩) hne _).far (p := ⟨_, _, none⟩) hne _).far (p := ⟨_, _, none⟩) hne _).far (p := ⟨_, _, none⟩) hne _).far (p := ⟨_, _, none⟩) hne _).far (p := ⟨_, _, none⟩) hne _).far (p := ⟨_, _, none⟩) hne _, ?_, ?_⟩
  · have := ((((((h0.nb.set_ 0 (.int .i64 kd.id)).set_ 1 (.string kd.con)).set_ 2 (.int .i64 kd.par)).set_ 3 (.string kd.role)).set_ 4 (.slice M.p.A M.p.n M.p.c)).set_ 5 (.slice M.k.A M.k.n M.k.c)).set_ 6 (.slice M.r.A M.r.n M.r.c)
    simpa using this
  · have hb := h0.bel
    exact Below.setCell' (Below.setCell' (Below.setCell' (Below.setCell' (Below.setCell' (Below.setCell' (Below.setCell' hb (by omega) _) (by omega) _) (by omega) _) (by omega) _) (by omega) _) (by omega) _) (by omega) _
end Go.Proofs.YtjjlofaejpnnnaaGreatDoor
namespace Go.Proofs.YtjjlofaejpnnnaaGreatDoor
open Go Go.RowKit Go.Sort
set_option linter.unusedVariables false
/-- the box of a model, and nothing old has turned -/
structure MW (w : World) (next : Int) (A : Option Addr) (n c : Nat) (wr : World) : Prop where
  md : Blk wr w.heap.size 25 #[.int .i64 next, .slice A n c]
  bel : Below w.heap.size w wr
section
variable {w wr w' : World} {next : Int} {A : Option Addr} {n c : Nat}
theorem MW.start (w : World) (next : Int) (A : Option Addr) (n c : Nat) : MW w next A n c (w.alloc (.cells #[.int .i64 next, .slice A n c] 25)) := ⟨Blk.new _ _ _, below_box _ _⟩
theorem MW.after (h : MW w next A n c wr) (hb : Below wr.heap.size wr w') : MW w next A n c w' := ⟨h.md.after hb, h.bel.trans (hb.mono h.bel.size)⟩
theorem MW.drewN (h : MW w next A n c wr) (q : Nat) : MW w next A n c (wr.drewN q) := ⟨h.md, below_drewN h.bel q⟩
theorem MW.size (h : MW w next A n c wr) : w.heap.size < wr.heap.size := h.md.lt
theorem MW.c0 (h : MW w next A n c wr) : wr.cell? ⟨w.heap.size, 0, none⟩ = some (.int .i64 next) := h.md.cell 0
theorem MW.c1 (h : MW w next A n c wr) : wr.cell? ⟨w.heap.size, 1, none⟩ = some (.slice A n c) := h.md.cell 1
end
end Go.Proofs.YtjjlofaejpnnnaaGreatDoor
namespace Go.Proofs.YtjjlofaejpnnnaaGreatDoor
open Go Go.RowKit Go.Sort
set_option linter.unusedVariables false
/-- the boxes of two nodes -/
structure NW (w : World) (x : Nd) (L : Leaf) (y : Nd) (M : Leaf) (wr : World) : Prop where
  a : Blk wr w.heap.size 55 #[.int .i64 x.id, .string x.con, .int .i64 x.par, .string x.role, .slice L.p.A L.p.n L.p.c, .slice L.k.A L.k.n L.k.c, .slice L.r.A L.r.n L.r.c]
  b : Blk wr (w.heap.size + 1) 55 #[.int .i64 y.id, .string y.con, .int .i64 y.par, .string y.role, .slice M.p.A M.p.n M.p.c, .slice M.k.A M.k.n M.k.c, .slice M.r.A M.r.n M.r.c]
  bel : Below w.heap.size w wr
section
variable {w wr w' : World} {x y : Nd} {L M : Leaf}
theorem NW.start (w : World) (x : Nd) (L : Leaf) (y : Nd) (M : Leaf) : NW w x L y M ((w.alloc (.cells #[.int .i64 x.id, .string x.con, .int .i64 x.par, .string x.role, .slice L.p.A L.p.n L.p.c, .slice L.k.A L.k.n L.k.c, .slice L.r.A L.r.n L.r.c] 55)).alloc (.cells #[.int .i64 y.id, .string y.con, .int .i64 y.par, .string y.role, .slice M.p.A M.p.n M.p.c, .slice M.k.A M.k.n M.k.c, .slice M.r.A M.r.n M.r.c] 55)) :=
  ⟨(Blk.new _ _ _).alloc _, Blk.new' (by simp), (below_box _ _).alloc (by simp) _⟩
theorem NW.after (h : NW w x L y M wr) (hb : Below wr.heap.size wr w') : NW w x L y M w' := ⟨h.a.after hb, h.b.after hb, h.bel.trans (hb.mono h.bel.size)⟩
theorem NW.drewN (h : NW w x L y M wr) (q : Nat) : NW w x L y M (wr.drewN q) := ⟨h.a, h.b, below_drewN h.bel q⟩
theorem NW.size (h : NW w x L y M wr) : w.heap.size + 1 < wr.heap.size := h.b.lt
end
end Go.Proofs.YtjjlofaejpnnnaaGreatDoor
namespace Go.Proofs.YtjjlofaejpnnnaaGreatDoor
open Go Go.RowKit Go.Sort
set_option linter.unusedVariables false
/-- the boxes of two models -/
structure M2 (w : World) (next next' : Int) (A A' : Option Addr) (n c n' c' : Nat) (wr : World) : Prop where
  a : Blk wr w.heap.size 25 #[.int .i64 next, .slice A n c]
  b : Blk wr (w.heap.size + 1) 25 #[.int .i64 next', .slice A' n' c']
  bel : Below w.heap.size w wr
section
variable {w wr w' : World} {next next' : Int} {A A' : Option Addr} {n c n' c' : Nat}
theorem M2.start (w : World) (next next' : Int) (A A' : Option Addr) (n c n' c' : Nat) : M2 w next next' A A' n c n' c' ((w.alloc (.cells #[.int .i64 next, .slice A n c] 25)).alloc (.cells #[.int .i64 next', .slice A' n' c'] 25)) :=
  ⟨(Blk.new _ _ _).alloc _, Blk.new' (by simp), (below_box _ _).alloc (by simp) _⟩
theorem M2.after (h : M2 w next next' A A' n c n' c' wr) (hb : Below wr.heap.size wr w') : M2 w next next' A A' n c n' c' w' := ⟨h.a.after hb, h.b.after hb, h.bel.trans (hb.mono h.bel.size)⟩
theorem M2.size (h : M2 w next next' A A' n c n' c' wr) : w.heap.size + 1 < wr.heap.size := h.b.lt
end
end Go.Proofs.YtjjlofaejpnnnaaGreatDoor
namespace Go.Proofs.YtjjlofaejpnnnaaGreatDoor
open Go Go.RowKit Go.Sort
set_option linter.unusedVariables false
attribute [local go_sem ↓] Go.wp_at_zero Go.wp_at_succ
theorem MarkIn.row {w : World} {B : Nat} {e : TypeId} {size n : Nat} {s : Sl} {xs mark : List Value} (h : MarkIn w B e size s n xs mark) (hx : xs.length = n * size) : Row w B w.heap.size size s.A s.n s.c xs := by
  have h1 := own_row (own_take h.2.2 (Nat.le_succ n) h.2.1)
  rw [show (xs ++ mark).take (n * size) = xs from by rw [← hx]; simp] at h1
  rw [h.1]
  exact h1
/-- the mark behind the end: the room is there, and what lies in it -/
theorem MarkIn.mark {w : World} {B : Nat} {e : TypeId} {size n : Nat} {s : Sl} {xs : List Value} {m0 : Value} {ms : List Value} (h : MarkIn w B e size s n xs (m0 :: ms)) (hx : xs.length = n * size) :
    ∃ b o, s.A = some ⟨b, o, none⟩ ∧ b < w.heap.size ∧ s.n + 1 ≤ s.c ∧ s.c ≤ maxLen ∧ w.cell? ⟨b, o + s.n * size, none⟩ = some m0 := by
  have h1 := own_row h.2.2
  obtain ⟨b, o, hA, _, hb, hc⟩ := h1.2.2.2 (Nat.succ_pos _)
  refine ⟨b, o, hA, hb, ?_, h1.2.2.1, hc _ _ ?_⟩
  · rw [h.1]; exact h1.2.1
  · rw [h.1, ← hx]; simp
theorem LentLeaf.leafIn {w : World} {B : Nat} {nd : Nd} {L : Leaf} (h : LentLeaf w B nd L) : LeafIn w B w.heap.size nd L :=
  ⟨h.p.1, h.k.1, h.r.1, h.p.row (propCells_length _), h.k.row (by rw [intCells_length]; omega), h.r.row (refCells_length _), h.sz⟩
theorem LentAt.after {w w' : World} {B n c : Nat} {A : Option Addr} {nds : List Nd} {l : List (Nd × Leaf)} (h : LentAt w B A n c nds l) (hb : Below w.heap.size w w') : LentAt w' B A n c nds l :=
  ⟨h.nds_, h.len, fun p hp => (h.leaf p hp).after hb, h.some_, own_after h.own hb, h.le, h.max⟩
/-- where the nodes lie, each with its marks, and the last mark -/
theorem LentAt.all {w : World} {B n c : Nat} {A : Option Addr} {nds : List Nd} {l : List (Nd × Leaf)} (h : LentAt w B A n c nds l) :
    ∃ b o, A = some ⟨b, o, none⟩ ∧ b < w.heap.size ∧ w.cell? ⟨b, o + n * 7, none⟩ = some (.int .i64 (-7)) ∧ ∀ i p, l[i]? = some p → NodeAt w b (o + i * 7) p.1 p.2 ∧ LentLeaf w B p.1 p.2 := by
  have h1 := own_row h.own
  obtain ⟨b, o, hA, _, hb, hc⟩ := h1.2.2.2 (Nat.succ_pos _)
  refine ⟨b, o, hA, hb, hc _ _ (by rw [← h.len, ← allCells_len]; simp [markNd]), fun i p hp => ?_⟩
  have hi : i < l.length := (List.getElem?_eq_some_iff.1 hp).1
  have key : ∀ j u, j < 7 → (ndCells p)[j]? = some u → w.cell? ⟨b, o + i * 7 + j, none⟩ = some u := by
    intro j u hj hu
    have hlt : i * 7 + j < (allCells l).length := by rw [allCells_len]; omega
    have := hc (i * 7 + j) u (by rw [List.getElem?_append_left hlt]; unfold allCells; rw [flatN_get ndCells_len l i p hp j hj]; exact hu)
    rwa [Nat.add_assoc]
  exact ⟨⟨key 0 _ (by omega) rfl, key 1 _ (by omega) rfl, key 2 _ (by omega) rfl, key 3 _ (by omega) rfl, key 4 _ (by omega) rfl, key 5 _ (by omega) rfl, key 6 _ (by omega) rfl⟩, h.leaf p (List.mem_of_getElem? hp)⟩
end Go.Proofs.YtjjlofaejpnnnaaGreatDoor
namespace Go.Proofs.YtjjlofaejpnnnaaGreatDoor
open Go Go.RowKit Go.Sort
set_option linter.unusedVariables false
attribute [local go_sem ↓] Go.wp_at_zero Go.wp_at_succ
theorem step_call {P : Program} (w : World) {ops : Array Oper} {o : Oper} {a : Act} {K : Act → World → Prop} {Q : Exit → Act → World → Prop} {E : Prop} (hgd : o.guard = none) (f : FuncId) (vs : Array Value)
    (hrun : (execOp a.eval o).run P w = .ok (.enter f vs) w) {R : Ending → World → Prop} (h : Calls P f vs w R)
    (hK : ∀ e w', R e w' → ∃ u, e = .returned u ∧ K (a.put o.dst u) w') : if Region.wanted o (yielded ops a.tmps) = true then Oper.wp P o a w K Q else E := by
  have hw : Region.wanted o (yielded ops a.tmps) = true := by simp [Region.wanted, hgd]
  rw [if_pos hw]
  unfold Oper.wp
  rw [hrun]
  refine h.mono ?_
  intro e w' hR
  obtain ⟨u, rfl, hk⟩ := hK e w' hR
  exact hk
end Go.Proofs.YtjjlofaejpnnnaaGreatDoor

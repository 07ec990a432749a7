/-
  WALKS over the document's reader: add.
-/
import Derived.Test.YtckfcpiedainfaaGreatDoorZE31
namespace Go.Proofs.YtckfcpiedainfaaGreatDoor
open Go Go.RowKit Go.Sort
set_option linter.unusedVariables false
/-- a node is made: its number; a tree, if its kids are trees that were made -/
def AddPost (w : World) (A : Option Addr) (c : Nat) (all : List Tok) (fin bad : Int) (N : Nat) (ts : List (Nat × Tr)) (p : Nat) (k : Int) (s : ByteArray) (i : Int) (ks : List Int) (e : Ending) (w' : World) : Prop :=
  ∃ j : Nat, e = .returned (.int .i64 (j : Int)) ∧ DS w A c all fin bad (N + 1) ts p w' ∧ ∀ f, (∀ l, (∀ q ∈ ts, OneM l q.1 q.2) → Made l ks f) → DS w A c all fin bad (N + 1) ((j, ⟨k, s, i, f⟩) :: ts) p w'
set_option maxHeartbeats 6400000 in
set_option maxRecDepth 20000 in
theorem dadd_any (w : World) (A : Option Addr) (c : Nat) (all : List Tok) (fin bad : Int) (N p : Nat) (ts : List (Nat × Tr)) (X : World) (h : DS w A c all fin bad N ts p X) (hN : N ≤ 100000) (k : Int) (s : ByteArray) (i : Int) (Ak : Option Addr) (nk ck : Nat) (ks : List Int) (hk : Row X 0 X.heap.size 1 Ak nk ck (intCells ks)) (hkn : ks.length = nk) (hk3 : nk ≤ 3) :
    Calls Tryz.prog 40 #[.pointer (some ⟨w.heap.size, 0, none⟩), .int .i64 k, .string s, .int .i64 i, .slice Ak nk ck] X (AddPost w A c all fin bad N ts p k s i ks) := by
  obtain ⟨h1, h2, m, Am, cm, h3, h4, h5, h6⟩ := h
  have hml : m.length ≤ 100000 := by omega
  have HX : Hid (w.heap.size < X.heap.size) := Lib.hid h3.lt
  have HB := Lib.hid h1
  have HR := Lib.hid h3
  have HG := Lib.hid h4
  have H6 := Lib.hid h6
  have HK := Lib.hid hk
  have H5 := Lib.hid h5
  obtain ⟨i1, hi1, hz1, hs1, hbb1⟩ := info_parts intInfo
  obtain ⟨i2, hi2, hz2, hs2, hbb2⟩ := info_parts enInfo
  have HEM : Hid (∀ Y, Below X.heap.size X Y → Y.cell? ⟨w.heap.size, 4, none⟩ = some (.slice Am m.length cm)) := Lib.hid fun Y hY => (hY.cell (p := ⟨w.heap.size, 4, none⟩) h3.lt).trans ((h3.cell 4).trans rfl)
  clear h1 h3 h4 h6 hk h5
  go_enter Tryz.func40, Tryz.ntmps40
  go_upto_region 1 with (fail)
  refine wp_region_held_tail 14 (fun Y => Y.cell? ⟨w.heap.size, 4, none⟩ = some (.slice Am m.length cm)) (by kernel_rfl) (by kernel_rfl) (HEM.out _ (drew1_below X)) (fun hHeld => ?t0)
  case t0 =>
    simp only [List.take_succ_cons, List.take_zero, List.drop_succ_cons, List.drop_zero]
    have HBd : Hid (Below X.heap.size X X.drew) := Lib.hid (drew1_below X)
    generalize X.drew = X0 at HBd hHeld ⊢
    refine wpAnyH_take (i := 0) (v := (.pointer (some ⟨w.heap.size, 0, none⟩))) rfl (by kernel_rfl) (by kernel_rfl) (by kernel_rfl) (fun _ _ _ h => h) (Or.inl ⟨by rfl, ?y0⟩) (by assumption) ?q0
    case y0 => (intro w5 hSw; go_simp <;> with_reducible rfl)
    case q0 =>
      (try simp only [Act.put]); (try simp only [List.setIfInBounds_toArray])
      refine wpAnyH_take (i := 1) (v := (.pointer (some ⟨w.heap.size, 0, none⟩))) rfl (by kernel_rfl) (by kernel_rfl) (by kernel_rfl) (fun _ _ _ h => h) (Or.inl ⟨by rfl, ?y1⟩) (by assumption) ?q1
      case y1 => (intro w5 hSw; go_simp <;> with_reducible rfl)
      case q1 =>
        (try simp only [Act.put]); (try simp only [List.setIfInBounds_toArray])
        refine wpAnyH_take (i := 2) (v := (.pointer (some ⟨w.heap.size, 0, none⟩))) rfl (by kernel_rfl) (by kernel_rfl) (by kernel_rfl) (fun _ _ _ h => h) (Or.inl ⟨by rfl, ?y2⟩) (by assumption) ?q2
        case y2 => (intro w5 hSw; go_simp <;> with_reducible rfl)
        case q2 =>
          (try simp only [Act.put]); (try simp only [List.setIfInBounds_toArray])
          refine wpAnyH_take (i := 3) (v := (.pointer (some ⟨w.heap.size, 4, none⟩))) rfl (by kernel_rfl) (by kernel_rfl) (by kernel_rfl) (fun _ _ _ h => h) (Or.inl ⟨by rfl, ?y3⟩) (by assumption) ?q3
          case y3 => (intro w5 hSw; go_simp <;> with_reducible rfl)
          case q3 =>
            (try simp only [Act.put]); (try simp only [List.setIfInBounds_toArray])
            refine wpAnyH_take (i := 4) (v := (.slice Am m.length cm)) rfl (by kernel_rfl) (by kernel_rfl) (by kernel_rfl) (fun _ _ _ h => h) (Or.inl ⟨by rfl, ?y4⟩) (by assumption) ?q4
            case y4 => (intro w5 hSw; have e4 := hSw; go_simp <;> with_reducible rfl)
            case q4 =>
              (try simp only [Act.put]); (try simp only [List.setIfInBounds_toArray])
              refine wpAnyH_take (i := 5) (v := (.int .i64 k)) rfl (by kernel_rfl) (by kernel_rfl) (by kernel_rfl) (fun _ _ _ h => h) (Or.inl ⟨by rfl, ?y5⟩) (by assumption) ?q5
              case y5 => (intro w5 hSw; go_simp <;> with_reducible rfl)
              case q5 =>
                (try simp only [Act.put]); (try simp only [List.setIfInBounds_toArray])
                refine wpAnyH_take (i := 6) (v := (.string s)) rfl (by kernel_rfl) (by kernel_rfl) (by kernel_rfl) (fun _ _ _ h => h) (Or.inl ⟨by rfl, ?y6⟩) (by assumption) ?q6
                case y6 => (intro w5 hSw; go_simp <;> with_reducible rfl)
                case q6 =>
                  (try simp only [Act.put]); (try simp only [List.setIfInBounds_toArray])
                  refine wpAnyH_take (i := 7) (v := (.int .i64 i)) rfl (by kernel_rfl) (by kernel_rfl) (by kernel_rfl) (fun _ _ _ h => h) (Or.inl ⟨by rfl, ?y7⟩) (by assumption) ?q7
                  case y7 => (intro w5 hSw; go_simp <;> with_reducible rfl)
                  case q7 =>
                    (try simp only [Act.put]); (try simp only [List.setIfInBounds_toArray])
                    refine wpAnyH_take (i := 9) (v := (.slice Ak nk ck)) rfl (by kernel_rfl) (by kernel_rfl) (by kernel_rfl) (fun _ _ _ h => h) (Or.inl ⟨by rfl, ?y9⟩) (by assumption) ?q9
                    case y9 => (intro w5 hSw; go_simp <;> with_reducible rfl)
                    case q9 =>
                      (try simp only [Act.put]); (try simp only [List.setIfInBounds_toArray])
                      refine wpAnyH_ready (rs := [8]) (by kernel_rfl) (by simp) ?_
                      refine AllReadyH.cons rfl (fun K hK => ?s8) ?m8
                      case m8 => exact AllReadyH.nil
                      case s8 =>
                        have HB1 : Hid (Below X.heap.size X (X0.alloc (.cells #[] 3))) := Lib.hid (below_more HBd.out _)
                        have HN1 : Hid (Blk (X0.alloc (.cells #[] 3)) X0.heap.size 3 #[]) := Lib.hid (Blk.new _ _ _)
                        have HXX : Hid (X.heap.size ≤ X0.heap.size) := Lib.hid HBd.out.size
                        go_simp
                        refine hK.out _ _ (HEM.out _ HB1.out) (fun hHeld2 => ?q8)
                        case q8 =>
                          clear hK K hHeld
                          (try simp only [Act.put]); (try simp only [List.setIfInBounds_toArray])
                          refine wpAnyH_ready (rs := [10]) (by kernel_rfl) (by simp) ?_
                          refine AllReadyH.cons rfl (fun K hK => ?s10) ?m10
                          case m10 => exact AllReadyH.nil
                          case s10 =>
                            refine step_app _ rfl (.tmp 19) (.tmp 20) _ rfl X.heap.size 3 i1 _ 1 8 Tryz.underlying50 hi1 hz1 hs1 hbb1 rfl (by omega) (.slice (some ⟨X0.heap.size, 0, none⟩) 0 0) 0 [] rfl (own_emptyB HN1.out HXX.out) 0 X.heap.size Ak nk ck (intCells ks) rfl (Row.below HK.out HB1.out) (intCells_one _) (by unfold maxLen; omega) (by omega) HB1.out.size ?_
                            intro v1 X1 hown1 hgr1 _
                            obtain ⟨A1, c1, rfl, ho1, hb1⟩ := app_new HB1.out HN1.out HXX.out hown1 hgr1
                            have HB2 := Lib.hid hb1
                            have HO1 : Hid (X1.ownsRow X.heap.size 3 1 (.slice A1 (0 + nk) c1) (0 + nk) ([] ++ intCells ks)) := Lib.hid (by simpa using ho1)
                            refine hK.out _ _ (HEM.out _ hb1) (fun hHeld3 => ?q10)
                            case q10 =>
                              clear hK K hHeld2 hown1 hgr1 ho1 hb1
                              (try simp only [Act.put]); (try simp only [List.setIfInBounds_toArray])
                              refine wpAnyH_take (i := 11) (v := (.agg #[.int .i64 k, .string s, .int .i64 i, .slice A1 nk c1])) rfl (by kernel_rfl) (by kernel_rfl) (by kernel_rfl) (fun _ _ _ h => h) (Or.inl ⟨by rfl, ?y11⟩) (by assumption) ?q11
                              case y11 => (intro w5 hSw; go_simp <;> with_reducible rfl)
                              case q11 =>
                                (try simp only [Act.put]); (try simp only [List.setIfInBounds_toArray])
                                refine wpAnyH_ready (rs := [12]) (by kernel_rfl) (by simp) ?_
                                refine AllReadyH.cons rfl (fun K hK => ?s12) ?m12
                                case m12 => exact AllReadyH.nil
                                case s12 =>
                                  have HB3 : Hid (Below X.heap.size X (X1.alloc (.cells #[.int .i64 k, .string s, .int .i64 i, .slice A1 nk c1] 52))) := Lib.hid (below_more HB2.out _)
                                  have HO3 : Hid ((X1.alloc (.cells #[.int .i64 k, .string s, .int .i64 i, .slice A1 nk c1] 52)).ownsRow X.heap.size 3 1 (.slice A1 nk c1) nk (intCells ks)) := Lib.hid (World.ownsRow.alloc (by have := HO1.out; rw [Nat.zero_add, List.nil_append] at this; exact this) _)
                                  have HN3 : Hid (Row (X1.alloc (.cells #[.int .i64 k, .string s, .int .i64 i, .slice A1 nk c1] 52)) X1.heap.size (X1.heap.size + 1) 4 (some ⟨X1.heap.size, 0, none⟩) 1 1 [.int .i64 k, .string s, .int .i64 i, .slice A1 nk c1]) := Lib.hid (row_blk (heap_alloc_new X1 _) rfl (Nat.le_refl _) (by unfold maxLen; omega))
                                  go_simp
                                  refine hK.out _ _ (HEM.out _ HB3.out) (fun hHeld4 => ?q12)
                                  case q12 =>
                                    clear hK K hHeld3
                                    (try simp only [Act.put]); (try simp only [List.setIfInBounds_toArray])
                                    have hX1 : X1.heap.size = X1.heap.size := rfl
                                    generalize X1.alloc (.cells #[.int .i64 k, .string s, .int .i64 i, .slice A1 nk c1] 52) = X3 at HB3 HO3 HN3 hHeld4 ⊢
                                    have HG3 := Lib.hid (HG.out.after enOK HB3.out)
                                    refine wpAnyH_ready (rs := [13]) (by kernel_rfl) (by simp) ?_
                                    refine AllReadyH.cons rfl (fun K hK => ?s13) ?m13
                                    case m13 => exact AllReadyH.nil
                                    case s13 =>
                                      refine step_app _ rfl (.tmp 15) (.tmp 23) _ rfl (w.heap.size + 1) 52 i2 _ 4 56 Tryz.underlying22 hi2 hz2 hs2 hbb2 rfl (by omega) (.slice Am m.length cm) m.length (m.flatMap enC) rfl HG3.out.own X1.heap.size (X1.heap.size + 1) (some ⟨X1.heap.size, 0, none⟩) 1 1 [.int .i64 k, .string s, .int .i64 i, .slice A1 nk c1] rfl HN3.out (en_one ⟨k, s, i, ks⟩ A1 nk c1) (by unfold maxLen; omega) (by omega) (by have := HX.out; have := HB3.out.size; omega) ?_
                                      intro v2 X4 hown2 hgr2 _
                                      have hG4 := GL.push (p := ((⟨k, s, i, ks⟩ : EN), (⟨A1, nk, c1⟩ : Sl))) HG3.out enOK hgr2 hown2 ⟨hkn.symm, own_mono HO3.out (by have := HX.out; omega)⟩ (by have := HX.out; omega) (fun g hg => enLt (HG.out.leaf g hg)) ⟨hkn.symm, HO3.out⟩
                                      obtain ⟨A2, c2, rfl⟩ := own_form hown2
                                      have hr4 := (HR.out.after HB3.out).grown hgr2 (Ne.symm (own_blk_ne HG3.out.own (HR.out.after HB3.out) (by decide)))
                                      have hb4 : Below w.heap.size w X4 := below_grows (HB.out.trans (HB3.out.mono (Nat.le_of_lt HX.out))) hgr2 HG3.out.own (Nat.le_succ _)
                                      have HR5 : Hid (Blk (X4.setCell ⟨w.heap.size, 4, none⟩ (.slice A2 (m.length + 1) c2)) w.heap.size 61 #[.slice A all.length c, .int .i64 p, .int .i64 fin, .int .i64 bad, .slice A2 (m.length + 1) c2]) := Lib.hid (by simpa using hr4.set_ 4 (.slice A2 (m.length + 1) c2))
                                      have HG5 := Lib.hid (GE.setboxR (i := 4) hG4 hr4 (.slice A2 (m.length + 1) c2))
                                      have HB5 := Lib.hid (hb4.setCell (p := ⟨w.heap.size, 4, none⟩) (Nat.le_refl _) (.slice A2 (m.length + 1) c2))
                                      have y4 := (hr4.cell 4).trans (show _ = some (.slice Am m.length cm) from rfl)
                                      have f4 := hr4.frozen 4
                                      refine hK.out _ _ y4 (fun hHeld5 => ?q13)
                                      case q13 =>
                                        clear hK K hHeld4 hHeld5 hown2 hgr2 hG4 hr4 hb4
                                        (try simp only [Act.put]); (try simp only [List.setIfInBounds_toArray])
                                        refine wpAnyH_done (by kernel_rfl) ?_ _
                                        show wpList _ _ _ _ _ _
                                        go_wp2_with fail
                                        go_ret
                                        have hn : nodesOf (m ++ [((⟨k, s, i, ks⟩ : EN), (⟨A1, nk, c1⟩ : Sl))]) = nodesOf m ++ [⟨k, s, i, ks⟩] := by simp [nodesOf]
                                        have hl : (m ++ [((⟨k, s, i, ks⟩ : EN), (⟨A1, nk, c1⟩ : Sl))]).length = m.length + 1 := by rw [List.length_append]; rfl
                                        have hmore : ∀ q ∈ ts, OneM (nodesOf (m ++ [((⟨k, s, i, ks⟩ : EN), (⟨A1, nk, c1⟩ : Sl))])) q.1 q.2 := fun q hq => by rw [hn]; exact (H6.out q hq).more _
                                        have mk : ∀ ts', (∀ q ∈ ts', OneM (nodesOf (m ++ [((⟨k, s, i, ks⟩ : EN), (⟨A1, nk, c1⟩ : Sl))])) q.1 q.2) → DS w A c all fin bad (N + 1) ts' p (X4.setCell ⟨w.heap.size, 4, none⟩ (.slice A2 (m.length + 1) c2)) := fun ts' ht => ⟨HB5.out, h2, m ++ [((⟨k, s, i, ks⟩ : EN), (⟨A1, nk, c1⟩ : Sl))], A2, c2, by rw [hl]; exact HR5.out, by rw [hl]; exact HG5.out, by rw [hl]; have := H5.out; omega, ht⟩
                                        refine ⟨m.length, rfl, mk _ hmore, fun f hf => mk _ fun q hq => ?_⟩
                                        rcases List.mem_cons.1 hq with rfl | hq
                                        · rw [hn]
                                          have := one_add (hf (nodesOf m) H6.out) k s i
                                          rw [nodesOf_len] at this
                                          exact this
                                        · exact hmore q hq
end Go.Proofs.YtckfcpiedainfaaGreatDoor

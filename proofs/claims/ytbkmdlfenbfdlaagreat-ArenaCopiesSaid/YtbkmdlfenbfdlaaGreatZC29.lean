/-
  WALKS: a copy is what it was made of, node for node; nothing else is another one: the law.
  A MODEL AS AN ARGUMENT: what the reading of it tells of the cells, and how long its lists are.
  ACTS AS ARGUMENTS: what the reading of them tells of the cells.
-/
import Derived.Test.YtbkmdlfenbfdlaaGreatZC28
import Derived.Deep.RegionHeld3
import Derived.Deep.CutBlock
import Derived.Test.YtbkmdlfenbfdlaaGreatRows
import Derived.Deep.Slices
import Derived.Deep.SlicePairs
import Derived.Deep.Fields
import Derived.ChangeSame
import Derived.ChangeSlices
import Derived.Lib.SmallJoins
import Derived.Carry
namespace Go.Proofs.YtbkmdlfenbfdlaaGreat
open Go Go.RowKit Go.Sort
set_option linter.unusedVariables false
attribute [local go_sem ↓] Go.wp_at_zero Go.wp_at_succ
set_option maxRecDepth 20000 in
set_option maxHeartbeats 3200000 in
theorem copies_law (w : World) (hi : Nat) (Aa : Option Addr) (na ca : Nat) (acts : List Ac) (x : Ac) (h : ActsIn w hi Aa na ca acts) (hh : hi ≤ w.heap.size) (hx : SzA x) :
    Calls Tryz.prog 5 #[.slice Aa na ca, .agg #[.int .i64 x.kind, .int .i64 x.a, .int .i64 x.b, .int .i64 x.at_, .string x.word, .string x.text]] w (Ret w (.bool true)) := by
  obtain ⟨s, hs⟩ : ∃ s, builtV acts = s := ⟨_, rfl⟩
  have hok : Okay 150 s := hs ▸ built_okay acts
  have HBu : Hid (∀ X, Below w.heap.size w X → Calls Tryz.prog 14 #[.slice Aa na ca] X (BuiltPost X s)) := Lib.hid fun X hX => hs ▸ built_any X hi Aa na ca acts (h.below (hX.mono hh)) (Nat.le_trans hh hX.size)
  obtain ⟨next, nds⟩ := s
  have htm : TM next nds := hok.tm
  have hfits := hok.fits (by decide)
  try simp only at hfits
  have hR := rightM htm.right
  have hb0 := below_box w (.cells #[.int .i64 x.kind, .int .i64 x.a, .int .i64 x.b, .int .i64 x.at_, .string x.word, .string x.text] 32)
  have HB0 : Hid (Blk (w.alloc (.cells #[.int .i64 x.kind, .int .i64 x.a, .int .i64 x.b, .int .i64 x.at_, .string x.word, .string x.text] 32)) w.heap.size 32 x.cells ∧ Below w.heap.size w (w.alloc (.cells #[.int .i64 x.kind, .int .i64 x.a, .int .i64 x.b, .int .i64 x.at_, .string x.word, .string x.text] 32))) := Lib.hid ⟨Blk.new _ _ _, hb0⟩
  obtain ⟨id, hid⟩ : ∃ id, pickV next nds x.a = id := ⟨_, rfl⟩
  obtain ⟨y, hy⟩ : ∃ y, pickV next nds x.b = y := ⟨_, rfl⟩
  obtain ⟨ks, hks⟩ : ∃ ks, kidsR next nds y x.word = ks := ⟨_, rfl⟩
  have hkl : ks.length ≤ 4096 := by rw [← hks]; exact kidsR_len
  obtain ⟨rl, hrl⟩ : ∃ rl, plR next nds x.b x.word = rl := ⟨_, rfl⟩
  obtain ⟨ra, hra⟩ : ∃ ra, plA next nds x.b x.at_ x.word = ra := ⟨_, rfl⟩
  have hrs : rl.size ≤ maxLen := by
    rw [← hrl]
    unfold plR
    split
    · decide
    · exact hx.1
  have HPa : Hid (∀ A n c X, NodesIn X 0 X.heap.size A n c nds → ∀ z, Calls Tryz.prog 15 #[.agg #[.int .i64 next, .slice A n c], .int .i64 z] X (Ret X (.int .i64 (pickV next nds z)))) := Lib.hid fun A n c X hX z => pick_any X X.heap.size next z A n c nds hX (Nat.le_refl _)
  have HKi : Hid (∀ A n c X, NodesIn X 0 X.heap.size A n c nds → Calls Tryz.prog 17 #[.agg #[.int .i64 next, .slice A n c], .int .i64 y, .string x.word] X (ListR X ks)) := Lib.hid fun A n c X hX => hks ▸ kidsQ_any X X.heap.size next y x.word A n c nds hX (Nat.le_refl _)
  obtain ⟨rr, hrr⟩ : ∃ rr, restV x.at_ (ks.length + 1) = rr := ⟨_, rfl⟩
  have HRt : Hid (∀ X, Calls Tryz.prog 16 #[.int .i64 x.at_, .int .i64 (ks.length + 1)] X fun e w' => e = .returned (.int .i64 rr) ∧ X = w') := Lib.hid fun X => by
    have := rest_any X x.at_ (ks.length + 1) (by omega) (by omega)
    rw [hrr] at this
    exact this
  have HRL : Hid ((y = 0 → rl = ⟨#[]⟩ ∧ ra = 0) ∧ (y ≠ 0 → rl = x.word ∧ ra = rr)) := Lib.hid (by
    rw [← hrl, ← hra]
    unfold plR plA
    rw [hy, hks, hrr]
    exact ⟨fun h => by rw [if_pos h, if_pos h]; exact ⟨rfl, rfl⟩, fun h => by rw [if_neg h, if_neg h]; exact ⟨rfl, rfl⟩⟩)
  have HOkC : Hid (copyE next nds id y rl ra = 0 → Okay 151 (next + ((preI nds id).length : Int), copyL next nds id y rl ra)) := Lib.hid fun h0 => by
    have h1 := (hok.step { x with kind := 3 }).1
    have e : actR next nds { x with kind := 3 } = (next + ((preI nds id).length : Int), 0, copyL next nds id y rl ra) := by
      unfold actR actP
      have e0 : restV 3 7 = 3 := by decide
      simp only [e0, hid, hy, hrl, hra]
      rw [if_neg (by decide), if_neg (by decide), if_pos trivial]
      unfold resR
      rw [if_pos h0]
    unfold stepM at h1
    simp only [e] at h1
    exact h1
  have HCp : Hid (∀ A n c X, NodesIn X 0 X.heap.size A n c nds → Calls Tryz.prog 24 #[.agg #[.int .i64 next, .slice A n c], .int .i64 id, .int .i64 y, .string rl, .int .i64 ra] X (CopyPost X next nds id y rl ra)) := Lib.hid fun A n c X hX => copy_any X X.heap.size next id y ra rl A n c nds hX (Nat.le_refl _) hrs hfits
  have HFi : Hid (∀ A n c X, NodesIn X 0 X.heap.size A n c nds → ∀ z nd, ndOf nds z = some nd → Calls Tryz.prog 13 #[.agg #[.int .i64 next, .slice A n c], .int .i64 z] X (FindIs X (nd, true))) := Lib.hid fun A n c X hX z nd hnd => by
    have h1 := find_any' X X.heap.size next z A n c nds hX (Nat.le_refl _) hfits
    obtain ⟨ix, hix, _⟩ := ndOf_some hnd
    unfold findV at h1
    rw [htm.right, hix, hnd] at h1
    exact h1
  have hPid : Hid (pickV next nds x.a = id) := Lib.hid hid
  have hPy : Hid (pickV next nds x.b = y) := Lib.hid hy
  have HTM := Lib.hid htm
  have hkw : IntKind.i64.wrap ((ks.length : Int) + 1) = (ks.length : Int) + 1 := IntWalk.i64_in _ (by omega)
  clear hb0 h hh hx hs hok hfits hR hid hy hks hkl hrl hra hrs hrr htm
  go_enter Tryz.func5, Tryz.ntmps5
  go_upto_region 3 with (go_at_call 7; (with_reducible refine (awake_any _).mono ?_); go_must (rintro e w1 ⟨rfl, hb1⟩; have HB1 := Lib.hid (show Blk w1 w.heap.size 32 x.cells ∧ Below w.heap.size w w1 from ⟨HB0.out.1.after hb1, HB0.out.2.trans (hb1.mono HB0.out.2.size)⟩); clear hb1 HB0))
  go_upto_region 4 with (go_at_call 14; (with_reducible refine (HBu.out _ HB1.out.2).mono ?_); go_must (rintro e w2 ⟨A, n, c, l, rfl, ho2, hl2, hm2, hb2⟩; have hbx := below_box w2 (.cells #[.int .i64 next, .slice A n c] 26); have HX : Hid (F3 w x.cells w2.heap.size next nds A n c l (w2.alloc (.cells #[.int .i64 next, .slice A n c] 26))) := Lib.hid ⟨(HB1.out.1.after hb2).after hbx, Blk.new _ _ _, (ho2.mono HB1.out.2.size).after hbx, hl2, hm2, (HB1.out.2.trans (hb2.mono HB1.out.2.size)).trans (hbx.mono (Nat.le_trans HB1.out.2.size hb2.size))⟩; clear ho2 hl2 hm2 hb2 hbx HB1))
  try simp only at HX
  generalize w2.alloc (.cells #[.int .i64 next, .slice A n c] 26) = X0 at HX ⊢
  generalize w2.heap.size = g5 at HX ⊢
  have q0 := cell_regrown ((HX.out.m.cell 0).trans (show _ = some (.int .i64 next) from rfl))
  have q1 := cell_regrown ((HX.out.m.cell 1).trans (show _ = some (.slice A n c) from rfl))
  have q2 := cell_regrown ((HX.out.a.cell 1).trans (show _ = some (.int .i64 x.a) from rfl))
  have q3 := cell_regrown ((HX.out.a.cell 2).trans (show _ = some (.int .i64 x.b) from rfl))
  have HPa1 : Hid (∀ d os, Calls Tryz.prog 15 #[.agg #[.int .i64 next, .slice A n c], .int .i64 x.a] (grow (redrawn X0 d) os) (Ret (grow (redrawn X0 d) os) (.int .i64 id))) := Lib.hid fun d os => hPid.out ▸ HPa.out _ _ _ _ (HX.out.after (below_regrown X0 d os)).nm x.a
  have HPb1 : Hid (∀ d os, Calls Tryz.prog 15 #[.agg #[.int .i64 next, .slice A n c], .int .i64 x.b] (grow (redrawn X0 d) os) (Ret (grow (redrawn X0 d) os) (.int .i64 y))) := Lib.hid fun d os => hPy.out ▸ HPa.out _ _ _ _ (HX.out.after (below_regrown X0 d os)).nm x.b
  refine wp_region_quiet_below (by kernel_rfl) (by kernel_rfl) ?_
  repeat (go_big_quiet_step ((first | (go_at_call_has 15 x.a; exact regrown_ret (HPa1.out _ _)) | (go_at_call_has 15 x.b; exact regrown_ret (HPb1.out _ _)) | (go_at_call 15; first | exact regrown_ret (HPa1.out _ _) | exact regrown_ret (HPb1.out _ _)))))
  refine wpQuiet_nil ?_
  intro _ hw'
  obtain ⟨⟨dq, osq⟩, hw''⟩ := hw'
  subst hw''
  replace HX := Lib.hid (HX.out.after (below_regrown _ dq osq))
  generalize grow (redrawn _ dq) osq = X1 at HX ⊢
  clear q0 q1 q2 q3 HPa1 HPb1 HPa hPid hPy
  have c4 := (HX.out.a.cell 4).trans (show _ = some (.string x.word) from rfl)
  go_upto_region 6 with (fail)
  clear c4
  replace HX := Lib.hid (HX.out.after (below_drew1 _))
  have HSof : Hid (∀ X, F3 w x.cells g5 next nds A n c l X → X.cell? ⟨w.heap.size, 3, none⟩ = some (.int .i64 x.at_) ∧ X.cell? ⟨g5, 0, none⟩ = some (.int .i64 next) ∧ X.cell? ⟨g5, 1, none⟩ = some (.slice A n c)) := Lib.hid fun X hX => ⟨(hX.a.cell 3).trans rfl, (hX.m.cell 0).trans rfl, (hX.m.cell 1).trans rfl⟩
  refine wp_region_held_tail 9 (fun w' => w'.cell? ⟨w.heap.size, 3, none⟩ = some (.int .i64 x.at_) ∧ w'.cell? ⟨g5, 0, none⟩ = some (.int .i64 next) ∧ w'.cell? ⟨g5, 1, none⟩ = some (.slice A n c)) (by kernel_rfl) (by kernel_rfl) ?hSt (fun hHeld => ?qt0)
  case hSt => exact HSof.out _ HX.out
  case qt0 =>
    generalize X1.drew = wz at HX hHeld ⊢
    simp only [List.take_succ_cons, List.take_zero, List.drop_succ_cons, List.drop_zero]
    refine wpAnyH_take (i := 0) (v := (.pointer (some ⟨w.heap.size, 3, none⟩))) rfl (by kernel_rfl) (by kernel_rfl) (by kernel_rfl) (fun _ _ _ h => h) (Or.inl ⟨by rfl, ?yt_1⟩) (by assumption) ?qt_1
    case yt_1 => (intro w hSw; (try dsimp only at hSw); go_simp)
    case qt_1 =>
      (try simp only [Act.put]); (try simp only [List.setIfInBounds_toArray])
      refine wpAnyH_take (i := 1) (v := (.int .i64 x.at_)) rfl (by kernel_rfl) (by kernel_rfl) (by kernel_rfl) (fun _ _ _ h => h) (Or.inl ⟨by rfl, ?yt_2⟩) (by assumption) ?qt_2
      case yt_2 => (intro w hSw; (try dsimp only at hSw); go_simp)
      case qt_2 =>
        (try simp only [Act.put]); (try simp only [List.setIfInBounds_toArray])
        refine wpAnyH_take (i := 2) (v := (.agg #[.int .i64 next, .slice A n c])) rfl (by kernel_rfl) (by kernel_rfl) (by kernel_rfl) (fun _ _ _ h => h) (Or.inl ⟨by rfl, ?yt_3⟩) (by assumption) ?qt_3
        case yt_3 => (intro w hSw; (try dsimp only at hSw); go_simp)
        case qt_3 =>
          (try simp only [Act.put]); (try simp only [List.setIfInBounds_toArray])
          refine wpAnyH_take (i := 3) (v := (.int .i64 y)) rfl (by kernel_rfl) (by kernel_rfl) (by kernel_rfl) (fun _ _ _ h => h) (Or.inl ⟨by rfl, ?yt_4⟩) (by assumption) ?qt_4
          case yt_4 => (intro w hSw; (try dsimp only at hSw); go_simp)
          case qt_4 =>
            (try simp only [Act.put]); (try simp only [List.setIfInBounds_toArray])
            refine wpAnyH_take (i := 4) (v := (.string x.word)) rfl (by kernel_rfl) (by kernel_rfl) (by kernel_rfl) (fun _ _ _ h => h) (Or.inl ⟨by rfl, ?yt_5⟩) (by assumption) ?qt_5
            case yt_5 => (intro w hSw; (try dsimp only at hSw); go_simp)
            case qt_5 =>
              (try simp only [Act.put]); (try simp only [List.setIfInBounds_toArray])
              refine wpAnyH_ready (rs := [5]) (by kernel_rfl) (by simp) ?_
              refine AllReadyH.cons rfl (fun K hK => ?st_6) ?mt_6
              case st_6 =>
                (refine step_call _ (by rfl) 17 #[.agg #[.int .i64 next, .slice A n c], .int .i64 y, .string x.word] (by go_simp) (HKi.out _ _ _ _ HX.out.nm) ?_; rintro e Yb ⟨v, rfl, hvk, hbb⟩; obtain ⟨Ak, ck, hke⟩ := own_form hvk; subst hke; refine ⟨_, rfl, ?_⟩; replace HX := Lib.hid (HX.out.after hbb); clear hbb hvk)
                refine hK.out _ _ ?kt_6 (fun hHeld => ?qt_6)
                case kt_6 => ((try dsimp only); exact HSof.out _ HX.out)
                case qt_6 =>
                  clear hK K
                  (try simp only [Act.put]); (try simp only [List.setIfInBounds_toArray])
                  refine wpAnyH_take (i := 6) (v := (.int .i64 ks.length)) rfl (by kernel_rfl) (by kernel_rfl) (by kernel_rfl) (fun _ _ _ h => h) (Or.inl ⟨by rfl, ?yt_7⟩) (by assumption) ?qt_7
                  case yt_7 => (intro w hSw; (try dsimp only at hSw); go_simp)
                  case qt_7 =>
                    (try simp only [Act.put]); (try simp only [List.setIfInBounds_toArray])
                    refine wpAnyH_take (i := 7) (v := (.int .i64 (ks.length + 1))) rfl (by kernel_rfl) (by kernel_rfl) (by kernel_rfl) (fun _ _ _ h => h) (Or.inl ⟨by rfl, ?yt_8⟩) (by assumption) ?qt_8
                    case yt_8 => (intro w hSw; (try dsimp only at hSw); go_simp)
                    case qt_8 =>
                      (try simp only [Act.put]); (try simp only [List.setIfInBounds_toArray])
                      refine wpAnyH_ready (rs := [8]) (by kernel_rfl) (by simp) ?_
                      refine AllReadyH.cons rfl (fun K hK => ?st_9) ?mt_9
                      case st_9 =>
                        (refine step_call _ (by rfl) 16 #[.int .i64 x.at_, .int .i64 (ks.length + 1)] (by go_simp) (HRt.out _) ?_; rintro e Yc ⟨rfl, rfl⟩; refine ⟨_, rfl, ?_⟩)
                        refine hK.out _ _ ?kt_9 (fun hHeld => ?qt_9)
                        case kt_9 => ((try dsimp only); exact HSof.out _ HX.out)
                        case qt_9 =>
                          clear hK K
                          (try simp only [Act.put]); (try simp only [List.setIfInBounds_toArray])
                          refine wpAnyH_done (by kernel_rfl) ?_ _
                          show wpList _ _ _ _ _ _
                          clear hHeld
                          go_upto_if 49 with (fail)
                          rename World => X2
                          go_cut [8, 9] (fun s8 s9 wx => s8 = .string rl ∧ s9 = .int .i64 ra ∧ X2 = wx)
                          case first =>
                            by_cases hy0 : y = 0
                            · have hyb : (y == 0) = true := by rw [beq_iff_eq]; exact hy0
                              have HYL := Lib.hid (HRL.out.1 hy0)
                              clear hy0
                              go_wp2_with fail
                              go_meet
                              exact ⟨by rw [HYL.out.1], by rw [HYL.out.2], rfl⟩
                            · have hyb : (y == 0) = false := by rw [beq_eq_false_iff_ne]; exact hy0
                              have HYL := Lib.hid (HRL.out.2 hy0)
                              clear hy0
                              go_wp2_with fail
                              go_meet
                              exact ⟨by rw [HYL.out.1], by rw [HYL.out.2], rfl⟩
                          case rest =>
                            obtain ⟨rfl, rfl, rfl⟩ := hcut
                            clear HKi HRt HRL hkw HSof
                            have m0 := (HX.out.m.cell 0).trans (show _ = some (.int .i64 next) from rfl)
                            have m1 := (HX.out.m.cell 1).trans (show _ = some (.slice A n c) from rfl)
                            by_cases he : copyE next nds id y rl ra = 0
                            · obtain ⟨S, hS⟩ : ∃ S, preI nds id = S := ⟨_, rfl⟩
                              obtain ⟨Xs, hXs⟩ : ∃ Xs, copyL next nds id y rl ra = Xs := ⟨_, rfl⟩
                              obtain ⟨KK, hK⟩ : ∃ KK, S.length = KK := ⟨_, rfl⟩
                              have hCS := HTM.out.copyS he
                              have hokc := HOkC.out he
                              rw [hS, hXs] at hCS
                              rw [hS, hXs, hK] at hokc
                              have hfx := hokc.fits (by decide)
                              try simp only at hfx
                              have htx : TM (next + (KK : Int)) Xs := hokc.tm
                              have hK4 : KK ≤ 4096 := hK ▸ hCS.most
                              have hnx1 := htx.hi
                              have hnx0 := HTM.out.lo
                              obtain ⟨Z, hZ⟩ : ∃ Z, (List.range KK).map (fun (i : Nat) => next + (i : Int)) = Z := ⟨_, rfl⟩
                              have hZl : Z.length = KK := by rw [← hZ]; simp
                              have hZa : ∀ i, i < KK → Z[i]? = some (next + (i : Int)) := fun i hi => by rw [← hZ, List.getElem?_map, List.getElem?_range hi]; rfl
                              obtain ⟨lb, hlb⟩ : ∃ lb, belowV nds id = lb := ⟨_, rfl⟩
                              obtain ⟨lz, hlz⟩ : ∃ lz, belowV Xs next = lz := ⟨_, rfl⟩
                              have hpS : id :: lb = S := hlb ▸ hCS.pre
                              have hpZ : next :: lz = Z := by rw [← hZ, ← hK, ← hlz]; exact hCS.ord
                              have hlbK : lb.length + 1 = KK := by rw [← hK, ← hpS, List.length_cons]
                              have hlzK : lz.length + 1 = KK := by rw [← hZl, ← hpZ, List.length_cons]
                              obtain ⟨nd0, hnd0⟩ := hCS.all id (List.mem_of_getElem? hCS.hd)
                              have HCk : Hid (∀ X, NodesIn X 0 X.heap.size A n c nds → Calls Tryz.prog 24 #[.agg #[.int .i64 next, .slice A n c], .int .i64 id, .int .i64 y, .string rl, .int .i64 ra] X fun e w' => ∃ (A3 : Option Addr) (n3 c3 : Nat) (l3 : List (Nd × Leaf)), e = .returned (.tuple #[.agg #[.int .i64 (next + (KK : Int)), .slice A3 n3 c3], .int .i64 next, .int .i64 0]) ∧ OwnM w' X.heap.size (.slice A3 n3 c3) l3 ∧ l3.length = n3 ∧ l3.map (·.1) = Xs ∧ Below X.heap.size X w') := Lib.hid fun X hX => (HCp.out A n c X hX).mono fun e w' hp => by
                                obtain ⟨nx, i, A3, m3, c3, rfl, hb, _, h0⟩ := hp
                                obtain ⟨rfl, rfl, l3, ho, hl, hm⟩ := h0 he
                                rw [he, hS, hK]
                                exact ⟨A3, m3, c3, l3, rfl, ho, hl, hm.trans hXs, hb⟩
                              have HBm : Hid (∀ X, NodesIn X 0 X.heap.size A n c nds → Calls Tryz.prog 25 #[.agg #[.int .i64 next, .slice A n c], .int .i64 id] X (ListR X lb)) := Lib.hid fun X hX => by
                                have h1 := below_any X X.heap.size next id A n c nds hX (Nat.le_refl _)
                                obtain ⟨ix, hix, _⟩ := ndOf_some hnd0
                                unfold belowR at h1
                                rw [HTM.out.right, hix, hlb] at h1
                                exact h1
                              have HBx : Hid (∀ X (A3 : Option Addr) (n3 c3 : Nat), NodesIn X 0 X.heap.size A3 n3 c3 Xs → Calls Tryz.prog 25 #[.agg #[.int .i64 (next + (KK : Int)), .slice A3 n3 c3], .int .i64 next] X (ListR X lz)) := Lib.hid fun X A3 n3 c3 hX => by
                                have h1 := below_any X X.heap.size (next + (KK : Int)) next A3 n3 c3 Xs hX (Nat.le_refl _)
                                obtain ⟨ix, hix, _⟩ := ndOf_some (hCS.top nd0 hnd0)
                                unfold belowR at h1
                                rw [htx.right, hix, hlz] at h1
                                exact h1
                              have HFx : Hid (∀ X (A3 : Option Addr) (n3 c3 : Nat), NodesIn X 0 X.heap.size A3 n3 c3 Xs → ∀ z nd, ndOf Xs z = some nd → Calls Tryz.prog 13 #[.agg #[.int .i64 (next + (KK : Int)), .slice A3 n3 c3], .int .i64 z] X (FindIs X (nd, true))) := Lib.hid fun X A3 n3 c3 hX z nd hnd => by
                                have h1 := find_any' X X.heap.size (next + (KK : Int)) z A3 n3 c3 Xs hX (Nat.le_refl _) hfx
                                obtain ⟨ix, hix, _⟩ := ndOf_some hnd
                                unfold findV at h1
                                rw [htx.right, hix, hnd] at h1
                                exact h1
                              have HRm : Hid (∀ X (A3 : Option Addr) (n3 c3 : Nat), NodesIn X 0 X.heap.size A3 n3 c3 Xs → Calls Tryz.prog 19 #[.agg #[.int .i64 (next + (KK : Int)), .slice A3 n3 c3], .int .i64 next] X (TwoOwn X (next + (KK : Int), 0, nds))) := Lib.hid fun X A3 n3 c3 hX => (remove_any X X.heap.size (next + (KK : Int)) next A3 n3 c3 _ hX (Nat.le_refl _) hfx).mono fun e w' he => by
                                have := two_of he
                                obtain ⟨b1, b2⟩ := hCS.back
                                rw [hK] at b1
                                rw [b1, b2] at this
                                exact this
                              have HSa : Hid (∀ X A' n' c', NodesIn X 0 X.heap.size A' n' c' nds → NodesIn X 0 X.heap.size A n c nds → Calls Tryz.prog 20 #[.agg #[.int .i64 next, .slice A' n' c'], .agg #[.int .i64 next, .slice A n c]] X (Ret X (.bool true))) := Lib.hid fun X A' n' c' h1 h2 => by
                                have := refSame_any X X.heap.size next next A' A n' c' n c nds nds h1 h2 (Nat.le_refl _)
                                rwa [mdE_refl] at this
                              have HCS := Lib.hid hCS
                              have HKl := Lib.hid hK
                              have HZl := Lib.hid hZl
                              have HZa := Lib.hid hZa
                              have HpS := Lib.hid hpS
                              have HpZ := Lib.hid hpZ
                              have HLK : Hid (lb.length ≤ 4096 ∧ lz.length ≤ 4096) := Lib.hid ⟨by omega, by omega⟩
                              have HN : Hid (next + (KK : Int) ≤ 1048577 ∧ 1 ≤ next ∧ KK ≤ 4096 ∧ nds.length = n ∧ Xs.length = n + KK ∧ n ≤ 4096) := Lib.hid ⟨hnx1, hnx0, hK4, by rw [← HX.out.mm, List.length_map]; exact HX.out.lm, by rw [hCS.len, hK, ← HX.out.mm, List.length_map, HX.out.lm], by have h1 := HTM.out.len; rw [← HX.out.mm, List.length_map, HX.out.lm] at h1; exact h1⟩
                              obtain ⟨j0, hji, hy0, hy1, hy2⟩ := info_parts intInfo
                              clear hCS hokc hfx htx hS hXs hK hZ hZl hZa hlb hlz hpS hpZ hlbK hlzK hnd0 he HOkC HCp hnx1 hnx0 hK4
                              go_upto_region 10 with (go_at_call 24; (with_reducible refine (HCk.out _ HX.out.nm).mono ?_); go_must (rintro e w3 ⟨A3, n3, c3, l3, rfl, ho3, hl3, hm3, hb3⟩; have hbx := below_box w3 (.cells #[.int .i64 (next + (KK : Int)), .slice A3 n3 c3] 26); have HC : Hid (CX w x.cells g5 next nds A n c l w3.heap.size (next + (KK : Int)) A3 n3 c3 l3 Xs (w3.alloc (.cells #[.int .i64 (next + (KK : Int)), .slice A3 n3 c3] 26))) := Lib.hid ⟨(HX.out.after hb3).after hbx, Blk.new _ _ _, (ho3.mono (Nat.zero_le _)).after hbx, hl3, hm3⟩; clear ho3 hl3 hm3 hb3 hbx))
                              generalize w3.alloc (.cells #[.int .i64 (next + (KK : Int)), .slice A3 n3 c3] 26) = X3 at HC ⊢
                              generalize w3.heap.size = g10 at HC ⊢
                              clear m0 m1 HCk HX
                              have hlk := HLK.out
                              go_upto_region 12 with (fail)
                              have hba := below_box X3 (.cells #[.int .i64 id] 3)
                              have HBb := Lib.hid hba
                              have HOa := Lib.hid (own_one X3 id)
                              have HXa : Hid (NodesIn (X3.alloc (.cells #[.int .i64 id] 3)) 0 (X3.alloc (.cells #[.int .i64 id] 3)).heap.size A n c nds) := Lib.hid (HC.out.after hba).f.nm
                              have m0 := ((HC.out.after hba).f.m.cell 0).trans (show _ = some (.int .i64 next) from rfl)
                              have m1 := ((HC.out.after hba).f.m.cell 1).trans (show _ = some (.slice A n c) from rfl)
                              clear hba
                              go_upto_region 13 with (first | (go_at_call 25; (with_reducible refine (HBm.out _ HXa.out).mono ?_); go_must (rintro e w5 ⟨vb, rfl, hvb, hb5⟩; obtain ⟨Ab, cb, rfl⟩ := own_form hvb; have HVB := Lib.hid (own_row hvb); have HBc := Lib.hid (HBb.out.trans (hb5.mono HBb.out.size)); have HO5 := Lib.hid (own_after HOa.out hb5); clear hb5 hvb)) | (at_builtin; (with_reducible show wpList _ _ _ (⟨some 75, _, _, _, _, _⟩ :: _) _ _); go_must (refine wpList_app _ rfl (.tmp 71) (.tmp 74) _ rfl X3.heap.size 3 j0 _ 1 8 Tryz.underlying33 hji hy0 hy1 hy2 rfl (by omega) (.slice (some ⟨X3.heap.size, 0, none⟩) 1 1) 1 (intCells [id]) rfl HO5.out _ _ Ab lb.length cb (intCells lb) rfl HVB.out (intCells_one _) (by unfold maxLen; omega) (by omega) HBc.out.size ?_); go_must (intro v6 w6 hown6 hg6 _; have HB6 := Lib.hid (below_grows HBc.out hg6 HO5.out (Nat.le_refl _)); have HR6 := Lib.hid (own_cons hown6 HpS.out HKl.out); clear hown6 hg6)))
                              replace HC := Lib.hid (HC.out.after HB6.out)
                              obtain ⟨AO, cO, rfl⟩ := own_form HR6.out
                              have HSo := HR6
                              clear m0 m1 HXa HOa HBb HBc HO5 HVB HB6 HR6 HBm
                              rename World => X4
                              have hba := below_box X4 (.cells #[.int .i64 next] 3)
                              have HBb := Lib.hid hba
                              have HOa := Lib.hid (own_one X4 next)
                              have HXa : Hid (NodesIn (X4.alloc (.cells #[.int .i64 next] 3)) 0 (X4.alloc (.cells #[.int .i64 next] 3)).heap.size A3 n3 c3 Xs) := Lib.hid (HC.out.after hba).nx
                              have m0 := ((HC.out.after hba).b.cell 0).trans (show _ = some (.int .i64 (next + (KK : Int))) from rfl)
                              have m1 := ((HC.out.after hba).b.cell 1).trans (show _ = some (.slice A3 n3 c3) from rfl)
                              clear hba
                              replace HBx : Hid (∀ X, NodesIn X 0 X.heap.size A3 n3 c3 Xs → Calls Tryz.prog 25 #[.agg #[.int .i64 (next + (KK : Int)), .slice A3 n3 c3], .int .i64 next] X (ListR X lz)) := Lib.hid fun X hX => HBx.out X A3 n3 c3 hX
                              go_upto_region 14 with (first | (go_at_call 25; (with_reducible refine (HBx.out _ HXa.out).mono ?_); go_must (rintro e w5 ⟨vb, rfl, hvb, hb5⟩; obtain ⟨Ab, cb, rfl⟩ := own_form hvb; have HVB := Lib.hid (own_row hvb); have HBc := Lib.hid (HBb.out.trans (hb5.mono HBb.out.size)); have HO5 := Lib.hid (own_after HOa.out hb5); clear hb5 hvb)) | (at_builtin; (with_reducible show wpList _ _ _ (⟨some 81, _, _, _, _, _⟩ :: _) _ _); go_must (refine wpList_app _ rfl (.tmp 77) (.tmp 80) _ rfl X4.heap.size 3 j0 _ 1 8 Tryz.underlying33 hji hy0 hy1 hy2 rfl (by omega) (.slice (some ⟨X4.heap.size, 0, none⟩) 1 1) 1 (intCells [next]) rfl HO5.out _ _ Ab lz.length cb (intCells lz) rfl HVB.out (intCells_one _) (by unfold maxLen; omega) (by omega) HBc.out.size ?_); go_must (intro v6 w6 hown6 hg6 _; have HB6 := Lib.hid (below_grows HBc.out hg6 HO5.out (Nat.le_refl _)); have HR6 := Lib.hid (own_cons hown6 HpZ.out HZl.out); clear hown6 hg6)))
                              obtain ⟨AZ, cZ, rfl⟩ := own_form HR6.out
                              have HI := Lib.hid (CI.mk (HC.out.after HB6.out) (own_after HSo.out HB6.out) HR6.out)
                              clear HC HB6 HSo HR6 m0 m1 HXa HOa HBb HBc HO5 HVB HBx hlk HLK
                              rename World => X5
                              have hrow := own_row HI.out.s
                              have hnc := hrow.2.1
                              have hcm := hrow.2.2.1
                              unfold maxLen at hcm
                              clear hrow
                              have q0 := (HI.out.x.f.m.cell 0).trans (show _ = some (.int .i64 next) from rfl)
                              have q1 := (HI.out.x.f.m.cell 1).trans (show _ = some (.slice A n c) from rfl)
                              have x0 := (HI.out.x.b.cell 0).trans (show _ = some (.int .i64 (next + (KK : Int))) from rfl)
                              have x1 := (HI.out.x.b.cell 1).trans (show _ = some (.slice A3 n3 c3) from rfl)
                              have hn3 : n3 = n + KK := by
                                have h1 := HN.out.2.2.2.2.1
                                rw [← HI.out.x.mx, List.length_map, HI.out.x.lx] at h1
                                exact h1
                              have hw1 : IntKind.i64.wrap (next + (KK : Int)) = next + (KK : Int) := IntWalk.i64_in _ (by have := HN.out; omega)
                              have hw2 : IntKind.i64.wrap ((n : Int) + (KK : Int)) = (n : Int) + (KK : Int) := IntWalk.i64_in _ (by have := HN.out; omega)
                              have hne3 : ((n3 : Int) != (n : Int) + (KK : Int)) = false := by rw [bne_eq_false_iff_eq]; omega
                              clear hn3
                              go_wp2_with fail
                              go_loopw [15] (fun v15 wx => ∃ i : Nat, i ≤ KK ∧ v15 = .int .i64 i ∧ Hid (CI w x.cells g5 next nds A n c l g10 (next + (KK : Int)) A3 n3 c3 l3 Xs KK AO cO S AZ cZ Z wx)) (fun v _ => KK - (intOf v).toNat)
                              case atStart => exact ⟨0, Nat.zero_le _, rfl, HI⟩
                              case round =>
                                clear HI q0 q1 x0 x1 hw1 hw2 hne3
                                obtain ⟨i, hi, rfl, HI⟩ := hrel
                                rename World => wr
                                by_cases hlt : i < KK
                                · refine copies_round (id := id) HN.out HKl.out HZl.out HZa.out HCS.out HFi.out HFx.out hlt HI.out _ (fun _ _ _ _ h hd => And.intro (hd.symm.trans (And.left h)) (And.right h)) ?_
                                  clear HI
                                  intro wx v15 hv15
                                  intros
                                  rename_i hci
                                  subst hv15
                                  go_wp2_with fail
                                  go_roundw
                                  case rel => exact ⟨i + 1, by omega, rfl, Lib.hid hci⟩
                                  case measure => simp only [intOf]; omega
                                · have x0 := (HI.out.x.b.cell 0).trans (show _ = some (.int .i64 (next + (KK : Int))) from rfl)
                                  have x1 := (HI.out.x.b.cell 1).trans (show _ = some (.slice A3 n3 c3) from rfl)
                                  go_upto_region 35 with (go_at_call 19; (with_reducible refine (HRm.out _ _ _ _ HI.out.x.nx).mono ?_); go_must (rintro e w4 ⟨A4, n4, c4, l4, rfl, ho4, hl4, hm4, hb4⟩; have hbx := below_box w4 (.cells #[.int .i64 (next + (KK : Int)), .slice A4 n4 c4] 26); have HX4 := Lib.hid ((HI.out.x.f.after hb4).after hbx); have H4 : Hid (Blk (w4.alloc (.cells #[.int .i64 (next + (KK : Int)), .slice A4 n4 c4] 26)) w4.heap.size 26 #[.int .i64 (next + (KK : Int)), .slice A4 n4 c4] ∧ OwnM (w4.alloc (.cells #[.int .i64 (next + (KK : Int)), .slice A4 n4 c4] 26)) 0 (.slice A4 n4 c4) l4 ∧ l4.length = n4 ∧ l4.map (·.1) = nds ∧ g5 ≠ w4.heap.size ∧ w.heap.size ≤ w4.heap.size) := Lib.hid ⟨Blk.new _ _ _, (ho4.mono (Nat.zero_le _)).after hbx, hl4, hm4, Nat.ne_of_lt (HI.out.x.f.after hb4).m.lt, (HI.out.x.f.after hb4).bel.size⟩; clear ho4 hl4 hm4 hb4 hbx))
                                  generalize w4.alloc (.cells #[.int .i64 (next + (KK : Int)), .slice A4 n4 c4] 26) = X6 at HX4 H4 ⊢
                                  generalize w4.heap.size = g23 at H4 ⊢
                                  clear x0 x1 HI
                                  have m0 := (HX4.out.m.cell 0).trans (show _ = some (.int .i64 next) from rfl)
                                  have k0 := (H4.out.1.cell 0).trans (show _ = some (.int .i64 (next + (KK : Int))) from rfl)
                                  have k2 := H4.out.1.frozen 0
                                  have HX5 := Lib.hid (HX4.out.far H4.out.1 H4.out.2.2.2.2.1 H4.out.2.2.2.2.2 0 (.int .i64 next))
                                  have H5 : Hid (Blk (X6.setCell ⟨g23, 0, none⟩ (.int .i64 next)) g23 26 #[.int .i64 next, .slice A4 n4 c4] ∧ NodesIn (X6.setCell ⟨g23, 0, none⟩ (.int .i64 next)) 0 (X6.setCell ⟨g23, 0, none⟩ (.int .i64 next)).heap.size A4 n4 c4 nds) := Lib.hid ⟨by simpa using H4.out.1.set_ 0 (.int .i64 next), by rw [← H4.out.2.2.2.1]; exact ((H4.out.2.1.other H4.out.1 0 (.int .i64 next)).nodesIn H4.out.2.2.1).mono (Nat.zero_le _) (Nat.le_refl _)⟩
                                  go_upto_region 36 with (fail)
                                  generalize X6.setCell ⟨g23, 0, none⟩ (.int .i64 next) = X7 at HX5 H5 ⊢
                                  clear m0 k0 k2 HX4 H4
                                  have m0 := (HX5.out.m.cell 0).trans (show _ = some (.int .i64 next) from rfl)
                                  have m1 := (HX5.out.m.cell 1).trans (show _ = some (.slice A n c) from rfl)
                                  have k0 := (H5.out.1.cell 0).trans (show _ = some (.int .i64 next) from rfl)
                                  have k1 := (H5.out.1.cell 1).trans (show _ = some (.slice A4 n4 c4) from rfl)
                                  go_wp2_with (go_at_call 20; (with_reducible refine (HSa.out _ _ _ _ H5.out.2 HX5.out.nm).mono ?_); go_must (rintro e w6 ⟨rfl, hb6⟩; have HX6 := Lib.hid (HX5.out.after hb6); clear hb6))
                                  go_ret
                                  exact ret_b (by simp) rfl HX6.out.bel
                            · obtain ⟨ee, hee⟩ : ∃ ee, copyE next nds id y rl ra = ee := ⟨_, rfl⟩
                              have HCe : Hid (∀ X, NodesIn X 0 X.heap.size A n c nds → Calls Tryz.prog 24 #[.agg #[.int .i64 next, .slice A n c], .int .i64 id, .int .i64 y, .string rl, .int .i64 ra] X fun e w' => e = .returned (.tuple #[.agg #[.int .i64 0, .slice none 0 0], .int .i64 0, .int .i64 ee]) ∧ Below X.heap.size X w') := Lib.hid fun X hX => (HCp.out A n c X hX).mono fun e w' hp => by
                                obtain ⟨nx, i, A3, m3, c3, rfl, hb, h0, _⟩ := hp
                                obtain ⟨rfl, rfl, rfl, rfl, rfl⟩ := h0 he
                                rw [hee]
                                exact ⟨rfl, hb⟩
                              have heb : (ee != 0) = true := by rw [bne_iff_ne, ← hee]; exact he
                              clear he hee HCp HOkC
                              go_upto_region 10 with (go_at_call 24; (with_reducible refine (HCe.out _ HX.out.nm).mono ?_); go_must (rintro e w3 ⟨rfl, hb3⟩; have hbx := below_box w3 (.cells #[.int .i64 0, .slice none 0 0] 26); have HE : Hid (Blk (w3.alloc (.cells #[.int .i64 0, .slice none 0 0] 26)) w3.heap.size 26 #[.int .i64 0, .slice none 0 0] ∧ Below w.heap.size w (w3.alloc (.cells #[.int .i64 0, .slice none 0 0] 26))) := Lib.hid ⟨Blk.new _ _ _, ((HX.out.after hb3).after hbx).bel⟩; clear hb3 hbx))
                              generalize w3.alloc (.cells #[.int .i64 0, .slice none 0 0] 26) = X3 at HE ⊢
                              generalize w3.heap.size = g10 at HE ⊢
                              clear m0 m1
                              have e1 := (HE.out.1.cell 1).trans (show _ = some (.slice none 0 0) from rfl)
                              go_wp2_with fail
                              go_ret
                              exact ret_b (by simp) rfl HE.out.2
                      case mt_9 =>
                        exact AllReadyH.nil
              case mt_6 =>
                exact AllReadyH.nil
end Go.Proofs.YtbkmdlfenbfdlaaGreat
namespace Go.Proofs.YtbkmdlfenbfdlaaGreat
open Go Go.RowKit Go.Sort Go.ChangeShapes Go.WideShapes Go.Deep Go.Joins
set_option linter.unusedVariables false
theorem cell_spot {w : World} {a : Addr} {u : Value} (h : w.cell? a = some u) : a.spot = none := by
  unfold World.cell? at h
  split at h
  · split at h
    · cases h
    · rename_i hs
      cases ha : a.spot with
      | none => rfl
      | some k => rw [ha] at hs; simp at hs
  · cases h
theorem add_zero_ (a : Addr) : a.add 0 = a := by unfold Addr.add; simp
theorem addr_plain {a : Addr} (h : a.spot = none) : a = ⟨a.block, a.off, none⟩ := by
  obtain ⟨b, o, s⟩ := a
  obtain rfl : s = none := h
  rfl
/-- cells of an own kind, by the elements' index -/
theorem flat_cells {α : Type} {w : World} {f : α → List Value} {s : Nat} (hs : ∀ a, (f a).length = s) (h0 : 0 < s) (l : List α) (a : Addr)
    (h : ∀ i p, l[i]? = some p → ∀ r u, (f p)[r]? = some u → w.cell? (a.add (i * s + r)) = some u) : ∀ j u, (l.flatMap f)[j]? = some u → w.cell? (a.add j) = some u := by
  intro j u hj
  have hl : j < l.length * s := by rw [← flatN_len hs l]; exact (List.getElem?_eq_some_iff.1 hj).1
  have hd : j / s < l.length := Nat.div_lt_of_lt_mul (by rwa [Nat.mul_comm] at hl)
  have hr : j % s < s := Nat.mod_lt _ h0
  have he : j / s * s + j % s = j := by rw [Nat.mul_comm]; exact Nat.div_add_mod j s
  have hp : l[j / s]? = some l[j / s] := List.getElem?_eq_getElem hd
  have := h (j / s) _ hp (j % s) u (by rw [← flatN_get hs l (j / s) _ hp _ hr, he]; exact hj)
  rwa [he] at this
theorem row_of {w : World} {base n c size : Nat} {a : Addr} {xs : List Value} (hlen : xs.length = n * size) (h0 : 0 < size) (hn : n ≤ c) (hm : c ≤ maxLen) (hb : base ≤ a.block)
    (hc : ∀ j u, xs[j]? = some u → w.cell? (a.add j) = some u) : Row w base w.heap.size size (some a) n c xs := by
  refine ⟨hlen, hn, hm, fun hp => ?_⟩
  have hl : 0 < xs.length := by rw [hlen]; exact Nat.mul_pos hp h0
  have h1 := hc 0 _ (List.getElem?_eq_getElem hl)
  rw [add_zero_] at h1
  have ha := addr_plain (cell_spot h1)
  have hlt := block_lt_of_cell h1
  refine ⟨a.block, a.off, by rw [← ha], hb, hlt, fun j u hu => ?_⟩
  · have := hc j u hu
    rw [ha, Addr.add_lit] at this; exact this
section
variable {H : Type}
end
section
variable {H : Type} {enc : TypeId × Value → H} {w : World} {base : Nat} {spare : Nat → Bool} {held : Bool}
theorem spare_le {spare : Nat → Bool} {b len cap m : Nat} (hl : len ≤ cap) (hm : m = (if spare b then cap else len)) : len ≤ m := by rw [hm]; split <;> omega
instance ndLeafInhabited : Inhabited (Nd × Leaf) := ⟨(⟨0, ByteArray.empty, 0, ByteArray.empty, [], [], []⟩, ⟨⟨none, 0, 0⟩, ⟨none, 0, 0⟩, ⟨none, 0, 0⟩⟩)⟩
end
section
variable {H : Type} {enc : TypeId × Value → H} {P : Program}
/-- what the row asks behind the call, where all that was there before lies as it lay: the same readings again -/
theorem post_read {f : Func} {s : ChangeSpec} {W W' : World} {args : Array Value} {v : Value} {ds gs : List (DataW H)} {before q : List MemPlace} (hW : DataW.Whole enc P f.params.toList s.vars false W args.toList ds gs before)
    (hres : DataW.TrodAll enc P W' W.heap.size (fun _ => false) false f.resultTypes.toList (v.resultList f.resultTypes.size) (s.fn H (ds ++ gs)).results [])
    (hargs : DataW.TrodAll enc P W' 0 (fun b => decide (b < W.heap.size)) true f.params.toList args.toList (s.fn H (ds ++ gs)).args q)
    (hvars : DataW.TrodVars enc P W' (fun b => decide (b < W.heap.size)) s.vars (s.fn H (ds ++ gs)).vars []) (hb : Below W.heap.size W W') :
    s.post enc P f false true false false W args v W' :=
  ⟨ds, gs, before, [], q, [], hW, hres, hargs, hvars, hb.frame _, fun h => by cases h⟩
end
end Go.Proofs.YtbkmdlfenbfdlaaGreat
namespace Go.Proofs.YtbkmdlfenbfdlaaGreat
open Go Go.RowKit Go.Sort Go.ChangeShapes Go.WideShapes Go.Deep Go.Joins
set_option linter.unusedVariables false
instance acInhabited : Inhabited Ac := ⟨⟨0, 0, 0, 0, ByteArray.empty, ByteArray.empty⟩⟩
section
variable {H : Type} {enc : TypeId × Value → H} {w : World} {base : Nat} {spare : Nat → Bool} {held : Bool}
/-- a struct of one-cell fields: each field's cell, with its reading -/
theorem fields_of {P : Program} {e : TypeId} {fs : Array Field} {fuel : Nat} {cs : List Value} {x : DataW H × List MemPlace} (he : P.underlying e = some (.struct fs)) (hone : oneCellFields P fs = true) (hlen : cs.length = fs.size)
    (h : DataW.trod enc P w base spare held fuel e cs = some x) :
    ∃ n, ∀ (j : Nat) (f : Field), fs[j]? = some f → ∃ (v : Value) (y : DataW H × List MemPlace), cs[j]? = some v ∧ DataW.trod enc P w base spare held n f.type [v] = some y := by
  obtain ⟨ys, n, _, rfl, hl, hys, hf⟩ := DataW.trod_struct he h
  refine ⟨n, fun j f hj => ?_⟩
  have hjs : j < fs.size := (Array.getElem?_eq_some_iff.1 hj).1
  have hjl : j < cs.length := by omega
  have hjy : j < ys.length := by omega
  obtain ⟨o1, o2⟩ := hone_of hone j f hj
  have h1 := hf j f hj
  rw [o1, o2, List.drop_eq_getElem_cons hjl, List.take_succ_cons, List.take_zero, List.getElem?_eq_getElem hjy] at h1
  exact ⟨cs[j], ys[j], List.getElem?_eq_getElem hjl, h1⟩
theorem act_cells {fuel : Nat} {cs : List Value} {x : DataW H × List MemPlace} (hlen : cs.length = 6) (h : DataW.trod enc Tryz.prog w base spare held fuel 32 cs = some x) : ∃ y : Ac, cs = acCells y ∧ SzA y := by
  obtain ⟨n, hf⟩ := fields_of Tryz.underlying32 (by kernel_rfl) (by rw [hlen]; rfl) h
  match cs, hlen with
  | [k0, k1, k2, k3, k4, k5], _ =>
    obtain ⟨v0, y0, c0, t0⟩ := hf 0 _ rfl
    obtain ⟨v1, y1, c1, t1⟩ := hf 1 _ rfl
    obtain ⟨v2, y2, c2, t2⟩ := hf 2 _ rfl
    obtain ⟨v3, y3, c3, t3⟩ := hf 3 _ rfl
    obtain ⟨v4, y4, c4, t4⟩ := hf 4 _ rfl
    obtain ⟨v5, y5, c5, t5⟩ := hf 5 _ rfl
    obtain ⟨i0, e0, _, _⟩ := DataW.trod_int Tryz.underlying3 t0
    obtain ⟨i1, e1, _, _⟩ := DataW.trod_int Tryz.underlying3 t1
    obtain ⟨i2, e2, _, _⟩ := DataW.trod_int Tryz.underlying3 t2
    obtain ⟨i3, e3, _, _⟩ := DataW.trod_int Tryz.underlying3 t3
    obtain ⟨s4, e4, _, z4⟩ := DataW.trod_string Tryz.underlying9 t4
    obtain ⟨s5, e5, _, z5⟩ := DataW.trod_string Tryz.underlying9 t5
    simp at c0 c1 c2 c3 c4 c5 e0 e1 e2 e3 e4 e5
    subst c0 c1 c2 c3 c4 c5
    subst e0 e1 e2 e3 e4 e5
    exact ⟨⟨i0, i1, i2, i3, s4, s5⟩, rfl, z4, z5⟩
set_option maxRecDepth 20000 in
/-- an act handed in, opened -/
theorem act_open {r : Reach} {b0 : Nat} {v : Value} {d : DataW H} {p : List MemPlace} (hv : Value.okWide Tryz.prog w r b0 32 v) (h : DataW.Trod enc Tryz.prog w base spare held 32 v d p) :
    ∃ y : Ac, v = .agg #[.int .i64 y.kind, .int .i64 y.a, .int .i64 y.b, .int .i64 y.at_, .string y.word, .string y.text] ∧ SzA y := by
  obtain ⟨cs, rfl, hsz⟩ := okWide_struct Tryz.underlying32 hv
  obtain ⟨fuel, hf⟩ := h
  have h6 : Tryz.prog.cellsOf 32 = 6 := by kernel_rfl
  rw [h6] at hsz
  obtain ⟨y, hy, hz⟩ := act_cells (by simpa [Value.cells] using hsz) hf
  refine ⟨y, ?_, hz⟩
  have : cs = (acCells y).toArray := by
    apply Array.toList_inj.1
    simpa [Value.cells] using hy
  rw [this]; rfl
set_option maxRecDepth 20000 in
/-- a list of acts handed in, opened -/
theorem acts_open {r : Reach} {b0 : Nat} {v : Value} {d : DataW H} {p : List MemPlace} (hv : Value.okWide Tryz.prog w r b0 22 v) (h : DataW.Trod enc Tryz.prog w base spare held 22 v d p) :
    ∃ (A : Option Addr) (n c : Nat) (l : List Ac), v = .slice A n c ∧ ActsIn w w.heap.size A n c l := by
  obtain ⟨A0, n0, c0, rfl⟩ := okWide_slice Tryz.underlying22 hv
  obtain ⟨fuel, hf⟩ := h
  have h6 : Tryz.prog.cellsOf 32 = 6 := by kernel_rfl
  rcases open_slice Tryz.underlying22 hf with ⟨hv, _⟩ | ⟨a, len, cap, m, n, D, Pl, hv, hb, hl, hm, hmm, _, hx⟩
  · have hv' : (Value.slice A0 n0 c0) = .slice none 0 0 := by simpa [Value.cells] using hv
    exact ⟨none, 0, 0, [], hv', Row.nil _ _ _ _, rfl, by simp⟩
  · have hv' : (Value.slice A0 n0 c0) = .slice (some a) len cap := by simpa [Value.cells] using hv
    have hle := spare_le hl hmm
    obtain ⟨F, hF⟩ := choose_lt (α := Ac) (n := len) (p := fun i q => (∀ r u, (acCells q)[r]? = some u → w.cell? (a.add (i * 6 + r)) = some u) ∧ SzA q) (fun i hi => by
      obtain ⟨cs', h1, h2⟩ := hx i (by omega)
      obtain ⟨_, hlen, hat⟩ := World.cells?_some h1
      rw [h6] at hlen
      obtain ⟨y, rfl, hz⟩ := act_cells hlen h2
      refine ⟨y, fun r u hr => ?_, hz⟩
      have hr6 : r < 6 := (List.getElem?_eq_some_iff.1 hr).1
      have := hat r (by rw [h6]; exact hr6)
      rw [h6, Go.Deep.add_add] at this
      rw [this]; exact hr)
    have hg : ∀ i p, ((List.range len).map F)[i]? = some p → i < len ∧ p = F i := by
      intro i p hp
      rw [List.getElem?_map] at hp
      obtain ⟨j, hj, rfl⟩ := Option.map_eq_some_iff.1 hp
      obtain ⟨h1, h2⟩ := List.getElem?_eq_some_iff.1 hj
      rw [List.getElem_range] at h2
      subst h2
      exact ⟨by simpa using h1, rfl⟩
    refine ⟨some a, len, cap, (List.range len).map F, hv', ?_, by simp, fun x hx => ?_⟩
    · have := row_of (w := w) (base := base) (n := len) (c := cap) (size := 6) (a := a) (xs := actsCells ((List.range len).map F)) (by unfold actsCells; rw [flatN_len (s := 6) (fun _ => rfl)]; simp) (by omega) hl hm hb
        (flat_cells (s := 6) (fun _ => rfl) (by omega) _ a (fun i p hp r u hr => by
          obtain ⟨hi, rfl⟩ := hg i p hp
          exact (hF i hi).1 r u hr))
      exact this.mono (Nat.zero_le _) (Nat.le_refl _)
    · obtain ⟨i, hi⟩ := List.getElem?_of_mem hx
      obtain ⟨h1, rfl⟩ := hg i x hi
      exact (hF i h1).2
end
end Go.Proofs.YtbkmdlfenbfdlaaGreat

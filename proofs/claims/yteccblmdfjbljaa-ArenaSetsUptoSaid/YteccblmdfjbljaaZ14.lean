/-
  WALKS: changed in one; Drop and Loose.
  WALKS: Put and Aim.
  PLAIN: names that rise; the list that the document's loops lay, and the one with a name laid on or taken away.
-/
import Derived.Test.YteccblmdfjbljaaZ13
namespace Go.Proofs.Yteccblmdfjbljaa
open Go Go.RowKit Go.Sort
set_option linter.unusedVariables false
attribute [local go_sem ↓] Go.wp_at_zero Go.wp_at_succ
/-- the nodes, one of them turned -/
def chL (nds : List Nd) (id : Int) (f : Nd → Nd) : List Nd := match ixOf nds id with | some i => nds.modify i f | none => nds
/-- a model or an error is answered -/
def SetPost (w : World) (next : Int) (er : Int) (nds' : List Nd) (e : Ending) (w' : World) : Prop :=
  ∃ nx A n c, e = .returned (.tuple #[.agg #[.int .i64 nx, .slice A n c], .int .i64 er]) ∧ Below w.heap.size w w' ∧ (er ≠ 0 → nx = 0 ∧ A = none ∧ n = 0 ∧ c = 0) ∧ (er = 0 → nx = next ∧ ∃ l, OwnM w' w.heap.size (.slice A n c) l ∧ l.length = n ∧ l.map (·.1) = nds')
theorem ixOf_get {nds : List Nd} {id : Int} {i : Nat} (h : ixOf nds id = some i) : ∃ nd, nds[i]? = some nd := by
  have hl : i < nds.length := by
    unfold ixOf at h
    exact (List.findIdx?_eq_some_iff_findIdx_eq.1 h).1
  exact ⟨_, List.getElem?_eq_getElem hl⟩
theorem changed_post (w : World) (hi : Nat) (next id told : Int) (A : Option Addr) (n c : Nat) (nds : List Nd) (F : FuncId) (caps : Array Value) (f : Nd → Nd) (h : NodesIn w 0 hi A n c nds) (hh : hi ≤ w.heap.size)
    (hr : told = 0 → Rise nds ∧ n ≤ 4096 ∧ ∀ nd ∈ nds, Fits 1 nd) (hen : ∀ args w, Sem.run Try.prog (callFunc F args) w = .ok (.enter F args) w) (hC : told = 0 → ∀ nd ∈ nds, Change w n F caps nd (f nd)) :
    Calls Try.prog 66 #[.agg #[.int .i64 next, .slice A n c], .int .i64 id, .int .i64 told, .func (.func F) #[] caps] w (SetPost w next (chE told nds id) (chL nds id f)) := by
  by_cases h0 : told = 0
  · subst h0
    obtain ⟨h1, h2, h3⟩ := hr rfl
    cases hix : ixOf nds id with
    | none =>
      refine (changed_none w hi next id A n c nds F caps h hh h1 h2 hix).mono ?_
      rintro e w' ⟨he, hb⟩
      have hce : chE 0 nds id = 20 := by unfold chE; rw [if_neg (by simp), hix]; rfl
      rw [hce]
      exact ⟨0, none, 0, 0, he, hb, fun _ => ⟨rfl, rfl, rfl, rfl⟩, fun h => absurd h (by decide)⟩
    | some i =>
      obtain ⟨nd, hnd⟩ := ixOf_get hix
      refine (changed_yes w hi next id A n c nds F caps i nd (f nd) h hh h1 h2 h3 hix hnd hen (hC rfl nd (List.mem_of_getElem? hnd))).mono ?_
      rintro e w' ⟨g, l, he, ho, hm, hb⟩
      have hce : chE 0 nds id = 0 := by unfold chE; rw [if_neg (by simp), hix]; rfl
      have hcl : chL nds id f = nds.set i (f nd) := by unfold chL; rw [hix]; exact modify_set hnd
      have hln : l.length = n := by
        have := congrArg List.length hm
        rw [List.length_map, List.length_set, h.1] at this
        exact this
      rw [hce]
      exact ⟨next, some ⟨g, 0, none⟩, n, n, he, hb, fun h => absurd rfl h, fun _ => ⟨rfl, l, ho, hln, by rw [hcl]; exact hm⟩⟩
  · refine (changed_no w hi next id told A n c F caps h0).mono ?_
    rintro e w' ⟨he, hb⟩
    have hce : chE told nds id = told := by unfold chE; rw [if_pos h0]
    rw [hce]
    exact ⟨0, none, 0, 0, he, hb, fun _ => ⟨rfl, rfl, rfl, rfl⟩, fun h => absurd h h0⟩
theorem nameE_zero {next : Int} {nds : List Nd} {name : ByteArray} (h : nameE next nds name = 0) : rightB next nds = true := by
  unfold nameE at h
  cases hr : rightB next nds with
  | true => rfl
  | false => rw [hr] at h; simp at h
set_option maxRecDepth 20000 in
set_option maxHeartbeats 3200000 in
theorem drop_any (w : World) (hi : Nat) (next id : Int) (A : Option Addr) (n c : Nat) (nds : List Nd) (name : ByteArray) (h : NodesIn w 0 hi A n c nds) (hh : hi ≤ w.heap.size) (hsn : name.size ≤ maxLen)
    (hr : rightB next nds = true → Rise nds ∧ n ≤ 4096 ∧ (∀ nd ∈ nds, Fits 1 nd) ∧ ∀ nd ∈ nds, SortS (nd.props.map (·.1))) :
    Calls Try.prog 19 #[.agg #[.int .i64 next, .slice A n c], .int .i64 id, .string name] w (SetPost w next (chE (nameE next nds name) nds id) (chL nds id (fun nd => dropN nd name))) := by
  have hB0 : Below w.heap.size w (((w.alloc (.cells #[.int .i64 next, .slice A n c] 24)).alloc (.cells #[.string name] 9)).alloc (.cells #[.int .i64 0, .slice none 0 0] 24)) := below_more (below_more (below_more (Below.refl _ _) _) _) _
  have hM0 : Blk (((w.alloc (.cells #[.int .i64 next, .slice A n c] 24)).alloc (.cells #[.string name] 9)).alloc (.cells #[.int .i64 0, .slice none 0 0] 24)) w.heap.size 24 #[.int .i64 next, .slice A n c] := ((Blk.new _ _ _).alloc _).alloc _
  have hS0 : Blk (((w.alloc (.cells #[.int .i64 next, .slice A n c] 24)).alloc (.cells #[.string name] 9)).alloc (.cells #[.int .i64 0, .slice none 0 0] 24)) (w.heap.size + 1) 9 #[.string name] := (Blk.new' (by simp)).alloc _
  have hR0 : Blk (((w.alloc (.cells #[.int .i64 next, .slice A n c] 24)).alloc (.cells #[.string name] 9)).alloc (.cells #[.int .i64 0, .slice none 0 0] 24)) (w.heap.size + 1 + 1) 24 #[.int .i64 0, .slice none 0 0] := Blk.new' (by simp)
  have HH := Lib.hid h
  have HRR := Lib.hid hr
  clear h hr
  go_enter Try.func19, Try.ntmps19
  go_upto_region 1 with fail
  generalize (((w.alloc (.cells #[.int .i64 next, .slice A n c] 24)).alloc (.cells #[.string name] 9)).alloc (.cells #[.int .i64 0, .slice none 0 0] 24)) = W at hB0 hM0 hS0 hR0 ⊢
  have HSS : Hid (∀ Y, Below W.heap.size W Y → Y.cell? ⟨w.heap.size, 0, none⟩ = some (.int .i64 next) ∧ Y.cell? ⟨w.heap.size, 1, none⟩ = some (.slice A n c) ∧ Y.cell? ⟨w.heap.size + 1, 0, none⟩ = some (.string name) ∧ Y.cell? ⟨w.heap.size + 1 + 1, 0, none⟩ = some (.int .i64 0) ∧ Y.cell? ⟨w.heap.size + 1 + 1, 1, none⟩ = some (.slice none 0 0) ∧ Y.frozen? ⟨w.heap.size + 1 + 1, 0, none⟩ = false ∧ Y.frozen? ⟨w.heap.size + 1 + 1, 1, none⟩ = false) :=
    Lib.hid fun Y hY => ⟨((hM0.after hY).cell 0).trans rfl, ((hM0.after hY).cell 1).trans rfl, ((hS0.after hY).cell 0).trans rfl, ((hR0.after hY).cell 0).trans rfl, ((hR0.after hY).cell 1).trans rfl, (hR0.after hY).frozen 0, (hR0.after hY).frozen 1⟩
  have HNm := Lib.hid fun (Y : World) (hY : Below W.heap.size W Y) => nameable_any Y hi next name A n c nds (HH.out.below ((hB0.trans (hY.mono hB0.size)).mono hh)) (Nat.le_trans hh (hB0.trans (hY.mono hB0.size)).size) hsn
  have HCg := Lib.hid fun (Y : World) (hY : Below W.heap.size W Y) => changed_post Y hi next id (nameE next nds name) A n c nds 70 #[.pointer (some ⟨w.heap.size + 1, 0, none⟩)] (fun nd => dropN nd name) (HH.out.below ((hB0.trans (hY.mono hB0.size)).mono hh)) (Nat.le_trans hh (hB0.trans (hY.mono hB0.size)).size)
    (fun h0 => ⟨(HRR.out (nameE_zero h0)).1, (HRR.out (nameE_zero h0)).2.1, (HRR.out (nameE_zero h0)).2.2.1⟩) (fun _ _ => rfl) (fun h0 nd hnd => drop_change Y n nd (w.heap.size + 1) name (hS0.after hY) ((HRR.out (nameE_zero h0)).2.2.2 nd hnd) ((HRR.out (nameE_zero h0)).2.2.1 nd hnd))
  have HBW := Lib.hid (below_drew1 W)
  have HB0 := Lib.hid hB0
  have HR0 := Lib.hid hR0
  clear hB0 hM0 hS0 hR0
  refine wp_region_held_tail 9 (fun Y => Y.cell? ⟨w.heap.size, 0, none⟩ = some (.int .i64 next) ∧ Y.cell? ⟨w.heap.size, 1, none⟩ = some (.slice A n c) ∧ Y.cell? ⟨w.heap.size + 1, 0, none⟩ = some (.string name) ∧ Y.cell? ⟨w.heap.size + 1 + 1, 0, none⟩ = some (.int .i64 0) ∧ Y.cell? ⟨w.heap.size + 1 + 1, 1, none⟩ = some (.slice none 0 0) ∧ Y.frozen? ⟨w.heap.size + 1 + 1, 0, none⟩ = false ∧ Y.frozen? ⟨w.heap.size + 1 + 1, 1, none⟩ = false) (by kernel_rfl) (by kernel_rfl) (HSS.out _ HBW.out) (fun hHeld => ?qd0)
  case qd0 =>
    simp only [List.take_succ_cons, List.take_zero, List.drop_succ_cons, List.drop_zero]
    refine wpAnyH_take (i := 0) (v := (.agg #[.int .i64 next, .slice A n c])) rfl (by kernel_rfl) (by kernel_rfl) (by kernel_rfl) (fun _ _ _ h => h) (Or.inl ⟨by rfl, ?yd_1⟩) (by assumption) ?qd_1
    case yd_1 => (intro w hSw; (try dsimp only at hSw); go_simp)
    case qd_1 =>
      (try simp only [Act.put]); (try simp only [List.setIfInBounds_toArray])
      refine wpAnyH_take (i := 1) (v := (.int .i64 id)) rfl (by kernel_rfl) (by kernel_rfl) (by kernel_rfl) (fun _ _ _ h => h) (Or.inl ⟨by rfl, ?yd_2⟩) (by assumption) ?qd_2
      case yd_2 => (intro w hSw; (try dsimp only at hSw); go_simp)
      case qd_2 =>
        (try simp only [Act.put]); (try simp only [List.setIfInBounds_toArray])
        refine wpAnyH_take (i := 2) (v := (.agg #[.int .i64 next, .slice A n c])) rfl (by kernel_rfl) (by kernel_rfl) (by kernel_rfl) (fun _ _ _ h => h) (Or.inl ⟨by rfl, ?yd_3⟩) (by assumption) ?qd_3
        case yd_3 => (intro w hSw; (try dsimp only at hSw); go_simp)
        case qd_3 =>
          (try simp only [Act.put]); (try simp only [List.setIfInBounds_toArray])
          refine wpAnyH_take (i := 3) (v := (.string name)) rfl (by kernel_rfl) (by kernel_rfl) (by kernel_rfl) (fun _ _ _ h => h) (Or.inl ⟨by rfl, ?yd_4⟩) (by assumption) ?qd_4
          case yd_4 => (intro w hSw; (try dsimp only at hSw); go_simp)
          case qd_4 =>
            (try simp only [Act.put]); (try simp only [List.setIfInBounds_toArray])
            refine wpAnyH_take (i := 5) (v := (.func (.func 70) #[] #[.pointer (some ⟨w.heap.size + 1, 0, none⟩)])) rfl (by kernel_rfl) (by kernel_rfl) (by kernel_rfl) (fun _ _ _ h => h) (Or.inl ⟨by rfl, ?yd_5⟩) (by assumption) ?qd_5
            case yd_5 => (intro w hSw; (try dsimp only at hSw); go_simp)
            case qd_5 =>
              (try simp only [Act.put]); (try simp only [List.setIfInBounds_toArray])
              refine wpAnyH_ready (rs := [4]) (by kernel_rfl) (by simp) ?_
              refine AllReadyH.cons rfl (fun K hK => ?sd_6) ?md_6
              case sd_6 =>
                (refine step_call _ (by rfl) 65 #[.agg #[.int .i64 next, .slice A n c], .string name] (by go_simp) (HNm.out _ HBW.out) ?_; rintro e Y4 ⟨rfl, hb4⟩; refine ⟨_, rfl, ?_⟩; replace HBW := Lib.hid (HBW.out.trans (hb4.mono HBW.out.size)); clear hb4)
                refine hK.out _ _ ?kd_6 (fun hHeld => ?qd_6)
                case kd_6 => ((try dsimp only); exact HSS.out _ HBW.out)
                case qd_6 =>
                  clear hK K
                  (try simp only [Act.put]); (try simp only [List.setIfInBounds_toArray])
                  refine wpAnyH_ready (rs := [6]) (by kernel_rfl) (by simp) ?_
                  refine AllReadyH.cons rfl (fun K hK => ?sd_7) ?md_7
                  case sd_7 =>
                    (refine step_call _ (by rfl) 66 #[.agg #[.int .i64 next, .slice A n c], .int .i64 id, .int .i64 (nameE next nds name), .func (.func 70) #[] #[.pointer (some ⟨w.heap.size + 1, 0, none⟩)]] (by go_simp) (HCg.out _ HBW.out) ?_; rintro e Y6 ⟨nx6, A6, n6, c6, rfl, hb6, hne6, hok6⟩; refine ⟨_, rfl, ?_⟩; have HZ := Lib.hid HBW.out.size; replace HBW := Lib.hid (HBW.out.trans (hb6.mono HBW.out.size)); have HNE := Lib.hid hne6; have HOK := Lib.hid hok6; clear hb6 hne6 hok6)
                    refine hK.out _ _ ?kd_7 (fun hHeld => ?qd_7)
                    case kd_7 => ((try dsimp only); exact HSS.out _ HBW.out)
                    case qd_7 =>
                      clear hK K
                      (try simp only [Act.put]); (try simp only [List.setIfInBounds_toArray])
                      refine wpAnyH_take (i := 7) (v := (.agg #[.int .i64 nx6, .slice A6 n6 c6])) rfl (by kernel_rfl) (by kernel_rfl) (by kernel_rfl) (fun _ _ _ h => h) (Or.inl ⟨by rfl, ?yd_8⟩) (by assumption) ?qd_8
                      case yd_8 => (intro w hSw; (try dsimp only at hSw); go_simp)
                      case qd_8 =>
                        (try simp only [Act.put]); (try simp only [List.setIfInBounds_toArray])
                        refine wpAnyH_take (i := 8) (v := (.int .i64 (chE (nameE next nds name) nds id))) rfl (by kernel_rfl) (by kernel_rfl) (by kernel_rfl) (fun _ _ _ h => h) (Or.inl ⟨by rfl, ?yd_9⟩) (by assumption) ?qd_9
                        case yd_9 => (intro w hSw; (try dsimp only at hSw); go_simp)
                        case qd_9 =>
                          (try simp only [Act.put]); (try simp only [List.setIfInBounds_toArray])
                          refine wpAnyH_done (by kernel_rfl) ?_ _
                          obtain ⟨q1, q2, q3, q4, q5, q6, q7⟩ := hHeld
                          show wpList _ _ _ _ _ _
                          go_wp2_with fail
                          (try rw [Exit.noGoto_ret])
                          (try simp only [Exit.inBlock, Exit.then])
                          have hres : Try.f19.results = #[.cell 6 24, .tmp 7] := by kernel_rfl
                          refine bodyPost_ret (v := .tuple #[.agg #[.int .i64 nx6, .slice A6 n6 c6], .int .i64 (chE (nameE next nds name) nds id)]) ?hr rfl ?_
                          case hr =>
                            simp only [results, hres]
                            go_simp
                          have hR := HR0.out.after HBW.out
                          have hzz : w.heap.size ≤ W.heap.size := HB0.out.size
                          refine ⟨nx6, A6, n6, c6, rfl, ?_, HNE.out, fun h0 => ?_⟩
                          · exact ((HB0.out.trans (HBW.out.mono hzz)).setCell (p := ⟨w.heap.size + 1 + 1, 0, none⟩) (by simp only; omega) _).setCell (p := ⟨w.heap.size + 1 + 1, 1, none⟩) (by simp only; omega) _
                          · obtain ⟨h1, l, h2, h3, h4⟩ := HOK.out h0
                            exact ⟨h1, l, ((h2.mono (Nat.le_trans hzz HZ.out)).other hR 0 _).other (hR.set_ 0 _) 1 _, h3, h4⟩
                  case md_7 =>
                    exact AllReadyH.nil
              case md_6 =>
                exact AllReadyH.nil
set_option maxRecDepth 20000 in
set_option maxHeartbeats 3200000 in
theorem loose_any (w : World) (hi : Nat) (next id : Int) (A : Option Addr) (n c : Nat) (nds : List Nd) (name : ByteArray) (h : NodesIn w 0 hi A n c nds) (hh : hi ≤ w.heap.size) (hsn : name.size ≤ maxLen)
    (hr : rightB next nds = true → Rise nds ∧ n ≤ 4096 ∧ (∀ nd ∈ nds, Fits 1 nd) ∧ ∀ nd ∈ nds, SortS (nd.refs.map (·.1))) :
    Calls Try.prog 23 #[.agg #[.int .i64 next, .slice A n c], .int .i64 id, .string name] w (SetPost w next (chE (nameE next nds name) nds id) (chL nds id (fun nd => looseN nd name))) := by
  have hB0 : Below w.heap.size w (((w.alloc (.cells #[.int .i64 next, .slice A n c] 24)).alloc (.cells #[.string name] 9)).alloc (.cells #[.int .i64 0, .slice none 0 0] 24)) := below_more (below_more (below_more (Below.refl _ _) _) _) _
  have hM0 : Blk (((w.alloc (.cells #[.int .i64 next, .slice A n c] 24)).alloc (.cells #[.string name] 9)).alloc (.cells #[.int .i64 0, .slice none 0 0] 24)) w.heap.size 24 #[.int .i64 next, .slice A n c] := ((Blk.new _ _ _).alloc _).alloc _
  have hS0 : Blk (((w.alloc (.cells #[.int .i64 next, .slice A n c] 24)).alloc (.cells #[.string name] 9)).alloc (.cells #[.int .i64 0, .slice none 0 0] 24)) (w.heap.size + 1) 9 #[.string name] := (Blk.new' (by simp)).alloc _
  have hR0 : Blk (((w.alloc (.cells #[.int .i64 next, .slice A n c] 24)).alloc (.cells #[.string name] 9)).alloc (.cells #[.int .i64 0, .slice none 0 0] 24)) (w.heap.size + 1 + 1) 24 #[.int .i64 0, .slice none 0 0] := Blk.new' (by simp)
  have HH := Lib.hid h
  have HRR := Lib.hid hr
  clear h hr
  go_enter Try.func23, Try.ntmps23
  go_upto_region 1 with fail
  generalize (((w.alloc (.cells #[.int .i64 next, .slice A n c] 24)).alloc (.cells #[.string name] 9)).alloc (.cells #[.int .i64 0, .slice none 0 0] 24)) = W at hB0 hM0 hS0 hR0 ⊢
  have HSS : Hid (∀ Y, Below W.heap.size W Y → Y.cell? ⟨w.heap.size, 0, none⟩ = some (.int .i64 next) ∧ Y.cell? ⟨w.heap.size, 1, none⟩ = some (.slice A n c) ∧ Y.cell? ⟨w.heap.size + 1, 0, none⟩ = some (.string name) ∧ Y.cell? ⟨w.heap.size + 1 + 1, 0, none⟩ = some (.int .i64 0) ∧ Y.cell? ⟨w.heap.size + 1 + 1, 1, none⟩ = some (.slice none 0 0) ∧ Y.frozen? ⟨w.heap.size + 1 + 1, 0, none⟩ = false ∧ Y.frozen? ⟨w.heap.size + 1 + 1, 1, none⟩ = false) :=
    Lib.hid fun Y hY => ⟨((hM0.after hY).cell 0).trans rfl, ((hM0.after hY).cell 1).trans rfl, ((hS0.after hY).cell 0).trans rfl, ((hR0.after hY).cell 0).trans rfl, ((hR0.after hY).cell 1).trans rfl, (hR0.after hY).frozen 0, (hR0.after hY).frozen 1⟩
  have HNm := Lib.hid fun (Y : World) (hY : Below W.heap.size W Y) => nameable_any Y hi next name A n c nds (HH.out.below ((hB0.trans (hY.mono hB0.size)).mono hh)) (Nat.le_trans hh (hB0.trans (hY.mono hB0.size)).size) hsn
  have HCg := Lib.hid fun (Y : World) (hY : Below W.heap.size W Y) => changed_post Y hi next id (nameE next nds name) A n c nds 75 #[.pointer (some ⟨w.heap.size + 1, 0, none⟩)] (fun nd => looseN nd name) (HH.out.below ((hB0.trans (hY.mono hB0.size)).mono hh)) (Nat.le_trans hh (hB0.trans (hY.mono hB0.size)).size)
    (fun h0 => ⟨(HRR.out (nameE_zero h0)).1, (HRR.out (nameE_zero h0)).2.1, (HRR.out (nameE_zero h0)).2.2.1⟩) (fun _ _ => rfl) (fun h0 nd hnd => loose_change Y n nd (w.heap.size + 1) name (hS0.after hY) ((HRR.out (nameE_zero h0)).2.2.2 nd hnd) ((HRR.out (nameE_zero h0)).2.2.1 nd hnd))
  have HBW := Lib.hid (below_drew1 W)
  have HB0 := Lib.hid hB0
  have HR0 := Lib.hid hR0
  clear hB0 hM0 hS0 hR0
  refine wp_region_held_tail 9 (fun Y => Y.cell? ⟨w.heap.size, 0, none⟩ = some (.int .i64 next) ∧ Y.cell? ⟨w.heap.size, 1, none⟩ = some (.slice A n c) ∧ Y.cell? ⟨w.heap.size + 1, 0, none⟩ = some (.string name) ∧ Y.cell? ⟨w.heap.size + 1 + 1, 0, none⟩ = some (.int .i64 0) ∧ Y.cell? ⟨w.heap.size + 1 + 1, 1, none⟩ = some (.slice none 0 0) ∧ Y.frozen? ⟨w.heap.size + 1 + 1, 0, none⟩ = false ∧ Y.frozen? ⟨w.heap.size + 1 + 1, 1, none⟩ = false) (by kernel_rfl) (by kernel_rfl) (HSS.out _ HBW.out) (fun hHeld => ?qd0)
  case qd0 =>
    simp only [List.take_succ_cons, List.take_zero, List.drop_succ_cons, List.drop_zero]
    refine wpAnyH_take (i := 0) (v := (.agg #[.int .i64 next, .slice A n c])) rfl (by kernel_rfl) (by kernel_rfl) (by kernel_rfl) (fun _ _ _ h => h) (Or.inl ⟨by rfl, ?yd_1⟩) (by assumption) ?qd_1
    case yd_1 => (intro w hSw; (try dsimp only at hSw); go_simp)
    case qd_1 =>
      (try simp only [Act.put]); (try simp only [List.setIfInBounds_toArray])
      refine wpAnyH_take (i := 1) (v := (.int .i64 id)) rfl (by kernel_rfl) (by kernel_rfl) (by kernel_rfl) (fun _ _ _ h => h) (Or.inl ⟨by rfl, ?yd_2⟩) (by assumption) ?qd_2
      case yd_2 => (intro w hSw; (try dsimp only at hSw); go_simp)
      case qd_2 =>
        (try simp only [Act.put]); (try simp only [List.setIfInBounds_toArray])
        refine wpAnyH_take (i := 2) (v := (.agg #[.int .i64 next, .slice A n c])) rfl (by kernel_rfl) (by kernel_rfl) (by kernel_rfl) (fun _ _ _ h => h) (Or.inl ⟨by rfl, ?yd_3⟩) (by assumption) ?qd_3
        case yd_3 => (intro w hSw; (try dsimp only at hSw); go_simp)
        case qd_3 =>
          (try simp only [Act.put]); (try simp only [List.setIfInBounds_toArray])
          refine wpAnyH_take (i := 3) (v := (.string name)) rfl (by kernel_rfl) (by kernel_rfl) (by kernel_rfl) (fun _ _ _ h => h) (Or.inl ⟨by rfl, ?yd_4⟩) (by assumption) ?qd_4
          case yd_4 => (intro w hSw; (try dsimp only at hSw); go_simp)
          case qd_4 =>
            (try simp only [Act.put]); (try simp only [List.setIfInBounds_toArray])
            refine wpAnyH_take (i := 5) (v := (.func (.func 75) #[] #[.pointer (some ⟨w.heap.size + 1, 0, none⟩)])) rfl (by kernel_rfl) (by kernel_rfl) (by kernel_rfl) (fun _ _ _ h => h) (Or.inl ⟨by rfl, ?yd_5⟩) (by assumption) ?qd_5
            case yd_5 => (intro w hSw; (try dsimp only at hSw); go_simp)
            case qd_5 =>
              (try simp only [Act.put]); (try simp only [List.setIfInBounds_toArray])
              refine wpAnyH_ready (rs := [4]) (by kernel_rfl) (by simp) ?_
              refine AllReadyH.cons rfl (fun K hK => ?sd_6) ?md_6
              case sd_6 =>
                (refine step_call _ (by rfl) 65 #[.agg #[.int .i64 next, .slice A n c], .string name] (by go_simp) (HNm.out _ HBW.out) ?_; rintro e Y4 ⟨rfl, hb4⟩; refine ⟨_, rfl, ?_⟩; replace HBW := Lib.hid (HBW.out.trans (hb4.mono HBW.out.size)); clear hb4)
                refine hK.out _ _ ?kd_6 (fun hHeld => ?qd_6)
                case kd_6 => ((try dsimp only); exact HSS.out _ HBW.out)
                case qd_6 =>
                  clear hK K
                  (try simp only [Act.put]); (try simp only [List.setIfInBounds_toArray])
                  refine wpAnyH_ready (rs := [6]) (by kernel_rfl) (by simp) ?_
                  refine AllReadyH.cons rfl (fun K hK => ?sd_7) ?md_7
                  case sd_7 =>
                    (refine step_call _ (by rfl) 66 #[.agg #[.int .i64 next, .slice A n c], .int .i64 id, .int .i64 (nameE next nds name), .func (.func 75) #[] #[.pointer (some ⟨w.heap.size + 1, 0, none⟩)]] (by go_simp) (HCg.out _ HBW.out) ?_; rintro e Y6 ⟨nx6, A6, n6, c6, rfl, hb6, hne6, hok6⟩; refine ⟨_, rfl, ?_⟩; have HZ := Lib.hid HBW.out.size; replace HBW := Lib.hid (HBW.out.trans (hb6.mono HBW.out.size)); have HNE := Lib.hid hne6; have HOK := Lib.hid hok6; clear hb6 hne6 hok6)
                    refine hK.out _ _ ?kd_7 (fun hHeld => ?qd_7)
                    case kd_7 => ((try dsimp only); exact HSS.out _ HBW.out)
                    case qd_7 =>
                      clear hK K
                      (try simp only [Act.put]); (try simp only [List.setIfInBounds_toArray])
                      refine wpAnyH_take (i := 7) (v := (.agg #[.int .i64 nx6, .slice A6 n6 c6])) rfl (by kernel_rfl) (by kernel_rfl) (by kernel_rfl) (fun _ _ _ h => h) (Or.inl ⟨by rfl, ?yd_8⟩) (by assumption) ?qd_8
                      case yd_8 => (intro w hSw; (try dsimp only at hSw); go_simp)
                      case qd_8 =>
                        (try simp only [Act.put]); (try simp only [List.setIfInBounds_toArray])
                        refine wpAnyH_take (i := 8) (v := (.int .i64 (chE (nameE next nds name) nds id))) rfl (by kernel_rfl) (by kernel_rfl) (by kernel_rfl) (fun _ _ _ h => h) (Or.inl ⟨by rfl, ?yd_9⟩) (by assumption) ?qd_9
                        case yd_9 => (intro w hSw; (try dsimp only at hSw); go_simp)
                        case qd_9 =>
                          (try simp only [Act.put]); (try simp only [List.setIfInBounds_toArray])
                          refine wpAnyH_done (by kernel_rfl) ?_ _
                          obtain ⟨q1, q2, q3, q4, q5, q6, q7⟩ := hHeld
                          show wpList _ _ _ _ _ _
                          go_wp2_with fail
                          (try rw [Exit.noGoto_ret])
                          (try simp only [Exit.inBlock, Exit.then])
                          have hres : Try.f23.results = #[.cell 6 24, .tmp 7] := by kernel_rfl
                          refine bodyPost_ret (v := .tuple #[.agg #[.int .i64 nx6, .slice A6 n6 c6], .int .i64 (chE (nameE next nds name) nds id)]) ?hr rfl ?_
                          case hr =>
                            simp only [results, hres]
                            go_simp
                          have hR := HR0.out.after HBW.out
                          have hzz : w.heap.size ≤ W.heap.size := HB0.out.size
                          refine ⟨nx6, A6, n6, c6, rfl, ?_, HNE.out, fun h0 => ?_⟩
                          · exact ((HB0.out.trans (HBW.out.mono hzz)).setCell (p := ⟨w.heap.size + 1 + 1, 0, none⟩) (by simp only; omega) _).setCell (p := ⟨w.heap.size + 1 + 1, 1, none⟩) (by simp only; omega) _
                          · obtain ⟨h1, l, h2, h3, h4⟩ := HOK.out h0
                            exact ⟨h1, l, ((h2.mono (Nat.le_trans hzz HZ.out)).other hR 0 _).other (hR.set_ 0 _) 1 _, h3, h4⟩
                  case md_7 =>
                    exact AllReadyH.nil
              case md_6 =>
                exact AllReadyH.nil
end Go.Proofs.Yteccblmdfjbljaa
namespace Go.Proofs.Yteccblmdfjbljaa
open Go Go.RowKit Go.Sort
set_option linter.unusedVariables false
attribute [local go_sem ↓] Go.wp_at_zero Go.wp_at_succ
/-- the errors that Put and Aim tell ahead -/
def putE (next : Int) (nds : List Nd) (name val : ByteArray) : Int := if nameE next nds name = 0 then (if 4096 < val.size then 3 else 0) else nameE next nds name
def aimE (next : Int) (nds : List Nd) (name : ByteArray) (target : Int) : Int := if nameE next nds name = 0 then (if (ixOf nds target).isSome = true then 0 else 20) else nameE next nds name
theorem put_change (w : World) (n : Nat) (nd : Nd) (bn bv : Nat) (name : ByteArray) (val : ByteArray) (hv : val.size ≤ maxLen) (hb : Blk w bn 9 #[.string name]) (hbv : Blk w bv 9 #[.string val]) (hs : SortS (nd.props.map (·.1))) (hfit : Fits 1 nd) (hsn : name.size ≤ maxLen) :
    Change w n 67 #[.pointer (some ⟨bn, 0, none⟩), .pointer (some ⟨bv, 0, none⟩)] nd (putN nd name val) := by
  cases hfd : foundS (nd.props.map (·.1)) name with
  | true => exact put_found w n nd bn bv name val hv hb hbv hs hfit hfd
  | false => exact put_new w n nd bn bv name val hv hb hbv hs hfit hfd hsn
theorem putE_zero {next : Int} {nds : List Nd} {name : ByteArray} {val : ByteArray} (h : putE next nds name val = 0) : rightB next nds = true := by
  unfold putE at h
  split at h
  · exact nameE_zero (by assumption)
  · contradiction
set_option maxRecDepth 20000 in
set_option maxHeartbeats 3200000 in
theorem put_any (w : World) (hi : Nat) (next id : Int) (A : Option Addr) (n c : Nat) (nds : List Nd) (name : ByteArray) (val : ByteArray) (hv : val.size ≤ maxLen) (h : NodesIn w 0 hi A n c nds) (hh : hi ≤ w.heap.size) (hsn : name.size ≤ maxLen)
    (hr : rightB next nds = true → Rise nds ∧ n ≤ 4096 ∧ (∀ nd ∈ nds, Fits 1 nd) ∧ ∀ nd ∈ nds, SortS (nd.props.map (·.1))) :
    Calls Try.prog 17 #[.agg #[.int .i64 next, .slice A n c], .int .i64 id, .string name, .string val] w (SetPost w next (chE (putE next nds name val) nds id) (chL nds id (fun nd => putN nd name val))) := by
  have hB0 : Below w.heap.size w ((((w.alloc (.cells #[.int .i64 next, .slice A n c] 24)).alloc (.cells #[.string name] 9)).alloc (.cells #[.string val] 9)).alloc (.cells #[.int .i64 0, .slice none 0 0] 24)) := below_more (below_more (below_more (below_more (Below.refl _ _) _) _) _) _
  have hM0 : Blk ((((w.alloc (.cells #[.int .i64 next, .slice A n c] 24)).alloc (.cells #[.string name] 9)).alloc (.cells #[.string val] 9)).alloc (.cells #[.int .i64 0, .slice none 0 0] 24)) w.heap.size 24 #[.int .i64 next, .slice A n c] := (((Blk.new _ _ _).alloc _).alloc _).alloc _
  have hS0 : Blk ((((w.alloc (.cells #[.int .i64 next, .slice A n c] 24)).alloc (.cells #[.string name] 9)).alloc (.cells #[.string val] 9)).alloc (.cells #[.int .i64 0, .slice none 0 0] 24)) (w.heap.size + 1) 9 #[.string name] := ((Blk.new' (by simp)).alloc _).alloc _
  have hV0 : Blk ((((w.alloc (.cells #[.int .i64 next, .slice A n c] 24)).alloc (.cells #[.string name] 9)).alloc (.cells #[.string val] 9)).alloc (.cells #[.int .i64 0, .slice none 0 0] 24)) (w.heap.size + 1 + 1) 9 #[.string val] := (Blk.new' (by simp)).alloc _
  have hR0 : Blk ((((w.alloc (.cells #[.int .i64 next, .slice A n c] 24)).alloc (.cells #[.string name] 9)).alloc (.cells #[.string val] 9)).alloc (.cells #[.int .i64 0, .slice none 0 0] 24)) (w.heap.size + 1 + 1 + 1) 24 #[.int .i64 0, .slice none 0 0] := Blk.new' (by simp)
  have HH := Lib.hid h
  have HRR := Lib.hid hr
  have HE : Hid (putE next nds name val = putE next nds name val) := Lib.hid rfl
  clear h hr
  go_enter Try.func17, Try.ntmps17
  go_upto_region 1 with fail
  generalize ((((w.alloc (.cells #[.int .i64 next, .slice A n c] 24)).alloc (.cells #[.string name] 9)).alloc (.cells #[.string val] 9)).alloc (.cells #[.int .i64 0, .slice none 0 0] 24)) = W at hB0 hM0 hS0 hV0 hR0 ⊢
  have HSS : Hid (∀ Y, Below W.heap.size W Y → Y.cell? ⟨w.heap.size, 0, none⟩ = some (.int .i64 next) ∧ Y.cell? ⟨w.heap.size, 1, none⟩ = some (.slice A n c) ∧ Y.cell? ⟨w.heap.size + 1, 0, none⟩ = some (.string name) ∧ Y.cell? ⟨w.heap.size + 1 + 1, 0, none⟩ = some (.string val) ∧ Y.cell? ⟨w.heap.size + 1 + 1 + 1, 0, none⟩ = some (.int .i64 0) ∧ Y.cell? ⟨w.heap.size + 1 + 1 + 1, 1, none⟩ = some (.slice none 0 0) ∧ Y.frozen? ⟨w.heap.size + 1 + 1 + 1, 0, none⟩ = false ∧ Y.frozen? ⟨w.heap.size + 1 + 1 + 1, 1, none⟩ = false) :=
    Lib.hid fun Y hY => ⟨((hM0.after hY).cell 0).trans rfl, ((hM0.after hY).cell 1).trans rfl, ((hS0.after hY).cell 0).trans rfl, ((hV0.after hY).cell 0).trans rfl, ((hR0.after hY).cell 0).trans rfl, ((hR0.after hY).cell 1).trans rfl, (hR0.after hY).frozen 0, (hR0.after hY).frozen 1⟩
  have HNm := Lib.hid (nameable_any W hi next name A n c nds (HH.out.below (hB0.mono hh)) (Nat.le_trans hh hB0.size) hsn)
  have HCg := Lib.hid fun (Y : World) (hY : Below W.heap.size W Y) => changed_post Y hi next id (putE next nds name val) A n c nds 67 #[.pointer (some ⟨w.heap.size + 1, 0, none⟩), .pointer (some ⟨w.heap.size + 1 + 1, 0, none⟩)] (fun nd => putN nd name val) (HH.out.below ((hB0.trans (hY.mono hB0.size)).mono hh)) (Nat.le_trans hh (hB0.trans (hY.mono hB0.size)).size)
    (fun h0 => ⟨(HRR.out (putE_zero h0)).1, (HRR.out (putE_zero h0)).2.1, (HRR.out (putE_zero h0)).2.2.1⟩) (fun _ _ => rfl) (fun h0 nd hnd => put_change Y n nd (w.heap.size + 1) (w.heap.size + 1 + 1) name val hv (hS0.after hY) (hV0.after hY) ((HRR.out (putE_zero h0)).2.2.2 nd hnd) ((HRR.out (putE_zero h0)).2.2.1 nd hnd) hsn)
  obtain ⟨b1, b2, b3, b4, b5, b6, b7, b8⟩ := HSS.out W (Below.refl _ _)
  have HB0 := Lib.hid hB0
  have HR0 := Lib.hid hR0
  clear hB0 hM0 hS0 hV0 hR0 HE
  by_cases h0 : nameE next nds name = 0
  · have hrt := nameE_zero h0
    rw [h0] at HNm
    by_cases h4 : 4096 < val.size
    · have hE : putE next nds name val = 3 := by unfold putE; rw [if_pos h0, if_pos h4]
      rw [hE] at HCg
      have h5 : (4096 : Int) < (val.size : Int) := by omega
      have HEE := Lib.hid hE
      clear h0 h4 hE hrt
      go_wp2_with (first | (go_at_call 65; go_must (refine HNm.out.mono ?_; rintro e Y2 ⟨rfl, hb2⟩; have HBW := Lib.hid hb2; obtain ⟨r1, r2, r3, r4, r5, r6, r7, r8⟩ := HSS.out _ hb2; clear hb2)) | (go_at_call 66; go_must (refine (HCg.out _ HBW.out).mono ?_; rintro e Y6 ⟨nx6, A6, n6, c6, rfl, hb6, hne6, hok6⟩; have HZ := Lib.hid HBW.out.size; replace HBW := Lib.hid (HBW.out.trans (hb6.mono HBW.out.size)); have HNE := Lib.hid hne6; have HOK := Lib.hid hok6; obtain ⟨t1, t2, t3, t4, t5, t6, t7, t8⟩ := HSS.out _ HBW.out; clear hb6 hne6 hok6)))
      (try rw [Exit.noGoto_ret])
      (try simp only [Exit.inBlock, Exit.then])
      have hres : Try.f17.results = #[.cell 8 24, .tmp 9] := by kernel_rfl
      refine bodyPost_ret (v := .tuple #[.agg #[.int .i64 nx6, .slice A6 n6 c6], .int .i64 (chE 3 nds id)]) ?hr rfl ?_
      case hr =>
        simp only [results, hres]
        go_simp
      have hR := HR0.out.after HBW.out
      have hzz : w.heap.size ≤ W.heap.size := HB0.out.size
      show SetPost _ _ _ _ _ _
      rw [HEE.out]
      refine ⟨nx6, A6, n6, c6, rfl, ?_, HNE.out, fun h0 => ?_⟩
      · exact ((HB0.out.trans (HBW.out.mono hzz)).setCell (p := ⟨w.heap.size + 1 + 1 + 1, 0, none⟩) (by simp only; omega) _).setCell (p := ⟨w.heap.size + 1 + 1 + 1, 1, none⟩) (by simp only; omega) _
      · obtain ⟨h1, l, h2, h3, h4⟩ := HOK.out h0
        exact ⟨h1, l, ((h2.mono (Nat.le_trans hzz HZ.out)).other hR 0 _).other (hR.set_ 0 _) 1 _, h3, h4⟩
    · have hE : putE next nds name val = 0 := by unfold putE; rw [if_pos h0, if_neg h4]
      rw [hE] at HCg
      have h5 : ¬ (4096 : Int) < (val.size : Int) := by omega
      have h6 : (val.size : Int) ≤ 4096 := by omega
      have HEE := Lib.hid hE
      clear h0 h4 hE hrt
      go_wp2_with (first | (go_at_call 65; go_must (refine HNm.out.mono ?_; rintro e Y2 ⟨rfl, hb2⟩; have HBW := Lib.hid hb2; obtain ⟨r1, r2, r3, r4, r5, r6, r7, r8⟩ := HSS.out _ hb2; clear hb2)) | (go_at_call 66; go_must (refine (HCg.out _ HBW.out).mono ?_; rintro e Y6 ⟨nx6, A6, n6, c6, rfl, hb6, hne6, hok6⟩; have HZ := Lib.hid HBW.out.size; replace HBW := Lib.hid (HBW.out.trans (hb6.mono HBW.out.size)); have HNE := Lib.hid hne6; have HOK := Lib.hid hok6; obtain ⟨t1, t2, t3, t4, t5, t6, t7, t8⟩ := HSS.out _ HBW.out; clear hb6 hne6 hok6)))
      (try rw [Exit.noGoto_ret])
      (try simp only [Exit.inBlock, Exit.then])
      have hres : Try.f17.results = #[.cell 8 24, .tmp 9] := by kernel_rfl
      refine bodyPost_ret (v := .tuple #[.agg #[.int .i64 nx6, .slice A6 n6 c6], .int .i64 (chE 0 nds id)]) ?hr rfl ?_
      case hr =>
        simp only [results, hres]
        go_simp
      have hR := HR0.out.after HBW.out
      have hzz : w.heap.size ≤ W.heap.size := HB0.out.size
      show SetPost _ _ _ _ _ _
      rw [HEE.out]
      refine ⟨nx6, A6, n6, c6, rfl, ?_, HNE.out, fun h0 => ?_⟩
      · exact ((HB0.out.trans (HBW.out.mono hzz)).setCell (p := ⟨w.heap.size + 1 + 1 + 1, 0, none⟩) (by simp only; omega) _).setCell (p := ⟨w.heap.size + 1 + 1 + 1, 1, none⟩) (by simp only; omega) _
      · obtain ⟨h1, l, h2, h3, h4⟩ := HOK.out h0
        exact ⟨h1, l, ((h2.mono (Nat.le_trans hzz HZ.out)).other hR 0 _).other (hR.set_ 0 _) 1 _, h3, h4⟩
  · have hE : putE next nds name val = nameE next nds name := by unfold putE; rw [if_neg h0]
    rw [hE] at HCg
    generalize nameE next nds name = e0 at HNm HCg h0 hE
    have HEE := Lib.hid hE
    have d0 : (e0 == 0) = false := by rw [beq_eq_false_iff_ne]; exact h0
    clear hE
    go_wp2_with (first | (go_at_call 65; go_must (refine HNm.out.mono ?_; rintro e Y2 ⟨rfl, hb2⟩; have HBW := Lib.hid hb2; obtain ⟨r1, r2, r3, r4, r5, r6, r7, r8⟩ := HSS.out _ hb2; clear hb2)) | (go_at_call 66; go_must (refine (HCg.out _ HBW.out).mono ?_; rintro e Y6 ⟨nx6, A6, n6, c6, rfl, hb6, hne6, hok6⟩; have HZ := Lib.hid HBW.out.size; replace HBW := Lib.hid (HBW.out.trans (hb6.mono HBW.out.size)); have HNE := Lib.hid hne6; have HOK := Lib.hid hok6; obtain ⟨t1, t2, t3, t4, t5, t6, t7, t8⟩ := HSS.out _ HBW.out; clear hb6 hne6 hok6)))
    (try rw [Exit.noGoto_ret])
    (try simp only [Exit.inBlock, Exit.then])
    have hres : Try.f17.results = #[.cell 8 24, .tmp 9] := by kernel_rfl
    refine bodyPost_ret (v := .tuple #[.agg #[.int .i64 nx6, .slice A6 n6 c6], .int .i64 (chE e0 nds id)]) ?hr rfl ?_
    case hr =>
      simp only [results, hres]
      go_simp
    have hR := HR0.out.after HBW.out
    have hzz : w.heap.size ≤ W.heap.size := HB0.out.size
    show SetPost _ _ _ _ _ _
    rw [HEE.out]
    refine ⟨nx6, A6, n6, c6, rfl, ?_, HNE.out, fun h0 => ?_⟩
    · exact ((HB0.out.trans (HBW.out.mono hzz)).setCell (p := ⟨w.heap.size + 1 + 1 + 1, 0, none⟩) (by simp only; omega) _).setCell (p := ⟨w.heap.size + 1 + 1 + 1, 1, none⟩) (by simp only; omega) _
    · obtain ⟨h1, l, h2, h3, h4⟩ := HOK.out h0
      exact ⟨h1, l, ((h2.mono (Nat.le_trans hzz HZ.out)).other hR 0 _).other (hR.set_ 0 _) 1 _, h3, h4⟩
theorem aim_change (w : World) (n : Nat) (nd : Nd) (bn bv : Nat) (name : ByteArray) (val : Int)  (hb : Blk w bn 9 #[.string name]) (hbv : Blk w bv 3 #[.int .i64 val]) (hs : SortS (nd.refs.map (·.1))) (hfit : Fits 1 nd) (hsn : name.size ≤ maxLen) :
    Change w n 72 #[.pointer (some ⟨bn, 0, none⟩), .pointer (some ⟨bv, 0, none⟩)] nd (aimN nd name val) := by
  cases hfd : foundS (nd.refs.map (·.1)) name with
  | true => exact aim_found w n nd bn bv name val  hb hbv hs hfit hfd
  | false => exact aim_new w n nd bn bv name val  hb hbv hs hfit hfd hsn
theorem aimE_zero {next : Int} {nds : List Nd} {name : ByteArray} {val : Int} (h : aimE next nds name val = 0) : rightB next nds = true := by
  unfold aimE at h
  split at h
  · exact nameE_zero (by assumption)
  · contradiction
set_option maxRecDepth 20000 in
set_option maxHeartbeats 3200000 in
theorem aim_any (w : World) (hi : Nat) (next id : Int) (A : Option Addr) (n c : Nat) (nds : List Nd) (name : ByteArray) (val : Int)  (h : NodesIn w 0 hi A n c nds) (hh : hi ≤ w.heap.size) (hsn : name.size ≤ maxLen)
    (hr : rightB next nds = true → Rise nds ∧ n ≤ 4096 ∧ (∀ nd ∈ nds, Fits 1 nd) ∧ ∀ nd ∈ nds, SortS (nd.refs.map (·.1))) :
    Calls Try.prog 21 #[.agg #[.int .i64 next, .slice A n c], .int .i64 id, .string name, .int .i64 val] w (SetPost w next (chE (aimE next nds name val) nds id) (chL nds id (fun nd => aimN nd name val))) := by
  have hB0 : Below w.heap.size w ((((w.alloc (.cells #[.int .i64 next, .slice A n c] 24)).alloc (.cells #[.string name] 9)).alloc (.cells #[.int .i64 val] 3)).alloc (.cells #[.int .i64 0, .slice none 0 0] 24)) := below_more (below_more (below_more (below_more (Below.refl _ _) _) _) _) _
  have hM0 : Blk ((((w.alloc (.cells #[.int .i64 next, .slice A n c] 24)).alloc (.cells #[.string name] 9)).alloc (.cells #[.int .i64 val] 3)).alloc (.cells #[.int .i64 0, .slice none 0 0] 24)) w.heap.size 24 #[.int .i64 next, .slice A n c] := (((Blk.new _ _ _).alloc _).alloc _).alloc _
  have hS0 : Blk ((((w.alloc (.cells #[.int .i64 next, .slice A n c] 24)).alloc (.cells #[.string name] 9)).alloc (.cells #[.int .i64 val] 3)).alloc (.cells #[.int .i64 0, .slice none 0 0] 24)) (w.heap.size + 1) 9 #[.string name] := ((Blk.new' (by simp)).alloc _).alloc _
  have hV0 : Blk ((((w.alloc (.cells #[.int .i64 next, .slice A n c] 24)).alloc (.cells #[.string name] 9)).alloc (.cells #[.int .i64 val] 3)).alloc (.cells #[.int .i64 0, .slice none 0 0] 24)) (w.heap.size + 1 + 1) 3 #[.int .i64 val] := (Blk.new' (by simp)).alloc _
  have hR0 : Blk ((((w.alloc (.cells #[.int .i64 next, .slice A n c] 24)).alloc (.cells #[.string name] 9)).alloc (.cells #[.int .i64 val] 3)).alloc (.cells #[.int .i64 0, .slice none 0 0] 24)) (w.heap.size + 1 + 1 + 1) 24 #[.int .i64 0, .slice none 0 0] := Blk.new' (by simp)
  have HH := Lib.hid h
  have HRR := Lib.hid hr
  have HE : Hid (aimE next nds name val = aimE next nds name val) := Lib.hid rfl
  clear h hr
  go_enter Try.func21, Try.ntmps21
  go_upto_region 1 with fail
  generalize ((((w.alloc (.cells #[.int .i64 next, .slice A n c] 24)).alloc (.cells #[.string name] 9)).alloc (.cells #[.int .i64 val] 3)).alloc (.cells #[.int .i64 0, .slice none 0 0] 24)) = W at hB0 hM0 hS0 hV0 hR0 ⊢
  have HSS : Hid (∀ Y, Below W.heap.size W Y → Y.cell? ⟨w.heap.size, 0, none⟩ = some (.int .i64 next) ∧ Y.cell? ⟨w.heap.size, 1, none⟩ = some (.slice A n c) ∧ Y.cell? ⟨w.heap.size + 1, 0, none⟩ = some (.string name) ∧ Y.cell? ⟨w.heap.size + 1 + 1, 0, none⟩ = some (.int .i64 val) ∧ Y.cell? ⟨w.heap.size + 1 + 1 + 1, 0, none⟩ = some (.int .i64 0) ∧ Y.cell? ⟨w.heap.size + 1 + 1 + 1, 1, none⟩ = some (.slice none 0 0) ∧ Y.frozen? ⟨w.heap.size + 1 + 1 + 1, 0, none⟩ = false ∧ Y.frozen? ⟨w.heap.size + 1 + 1 + 1, 1, none⟩ = false) :=
    Lib.hid fun Y hY => ⟨((hM0.after hY).cell 0).trans rfl, ((hM0.after hY).cell 1).trans rfl, ((hS0.after hY).cell 0).trans rfl, ((hV0.after hY).cell 0).trans rfl, ((hR0.after hY).cell 0).trans rfl, ((hR0.after hY).cell 1).trans rfl, (hR0.after hY).frozen 0, (hR0.after hY).frozen 1⟩
  have HNm := Lib.hid (nameable_any W hi next name A n c nds (HH.out.below (hB0.mono hh)) (Nat.le_trans hh hB0.size) hsn)
  have HCg := Lib.hid fun (Y : World) (hY : Below W.heap.size W Y) => changed_post Y hi next id (aimE next nds name val) A n c nds 72 #[.pointer (some ⟨w.heap.size + 1, 0, none⟩), .pointer (some ⟨w.heap.size + 1 + 1, 0, none⟩)] (fun nd => aimN nd name val) (HH.out.below ((hB0.trans (hY.mono hB0.size)).mono hh)) (Nat.le_trans hh (hB0.trans (hY.mono hB0.size)).size)
    (fun h0 => ⟨(HRR.out (aimE_zero h0)).1, (HRR.out (aimE_zero h0)).2.1, (HRR.out (aimE_zero h0)).2.2.1⟩) (fun _ _ => rfl) (fun h0 nd hnd => aim_change Y n nd (w.heap.size + 1) (w.heap.size + 1 + 1) name val  (hS0.after hY) (hV0.after hY) ((HRR.out (aimE_zero h0)).2.2.2 nd hnd) ((HRR.out (aimE_zero h0)).2.2.1 nd hnd) hsn)
  have HHas := Lib.hid fun (Y : World) (hY : Below W.heap.size W Y) (hq : rightB next nds = true) => has_any Y hi next val A n c nds (HH.out.below ((hB0.trans (hY.mono hB0.size)).mono hh)) (Nat.le_trans hh (hB0.trans (hY.mono hB0.size)).size) (HRR.out hq).1 (HRR.out hq).2.1
  obtain ⟨b1, b2, b3, b4, b5, b6, b7, b8⟩ := HSS.out W (Below.refl _ _)
  have HB0 := Lib.hid hB0
  have HR0 := Lib.hid hR0
  clear hB0 hM0 hS0 hV0 hR0 HE
  by_cases h0 : nameE next nds name = 0
  · have hrt := nameE_zero h0
    rw [h0] at HNm
    replace HHas := Lib.hid fun (Y : World) (hY : Below W.heap.size W Y) => HHas.out Y hY hrt
    cases h4 : (ixOf nds val).isSome with
    | false =>
      have hE : aimE next nds name val = 20 := by unfold aimE; rw [if_pos h0, h4]; rfl
      rw [hE] at HCg
      have HIS := Lib.hid h4
      have HEE := Lib.hid hE
      clear h0 h4 hE hrt
      go_wp2_with (first | (go_at_call 65; go_must (refine HNm.out.mono ?_; rintro e Y2 ⟨rfl, hb2⟩; have HBW := Lib.hid hb2; obtain ⟨r1, r2, r3, r4, r5, r6, r7, r8⟩ := HSS.out _ hb2; clear hb2)) | (go_at_call 39; go_must (refine (HHas.out _ HBW.out).mono ?_; rintro e Y3 ⟨rfl, hb3⟩; rw [HIS.out]; replace HBW := Lib.hid (HBW.out.trans (hb3.mono HBW.out.size)); obtain ⟨s1, s2, s3, s4, s5, s6, s7, s8⟩ := HSS.out _ HBW.out; clear hb3)) | (go_at_call 66; go_must (refine (HCg.out _ HBW.out).mono ?_; rintro e Y6 ⟨nx6, A6, n6, c6, rfl, hb6, hne6, hok6⟩; have HZ := Lib.hid HBW.out.size; replace HBW := Lib.hid (HBW.out.trans (hb6.mono HBW.out.size)); have HNE := Lib.hid hne6; have HOK := Lib.hid hok6; obtain ⟨t1, t2, t3, t4, t5, t6, t7, t8⟩ := HSS.out _ HBW.out; clear hb6 hne6 hok6)))
      (try rw [Exit.noGoto_ret])
      (try simp only [Exit.inBlock, Exit.then])
      have hres : Try.f21.results = #[.cell 8 24, .tmp 9] := by kernel_rfl
      refine bodyPost_ret (v := .tuple #[.agg #[.int .i64 nx6, .slice A6 n6 c6], .int .i64 (chE 20 nds id)]) ?hr rfl ?_
      case hr =>
        simp only [results, hres]
        go_simp
      have hR := HR0.out.after HBW.out
      have hzz : w.heap.size ≤ W.heap.size := HB0.out.size
      show SetPost _ _ _ _ _ _
      rw [HEE.out]
      refine ⟨nx6, A6, n6, c6, rfl, ?_, HNE.out, fun h0 => ?_⟩
      · exact ((HB0.out.trans (HBW.out.mono hzz)).setCell (p := ⟨w.heap.size + 1 + 1 + 1, 0, none⟩) (by simp only; omega) _).setCell (p := ⟨w.heap.size + 1 + 1 + 1, 1, none⟩) (by simp only; omega) _
      · obtain ⟨h1, l, h2, h3, h4⟩ := HOK.out h0
        exact ⟨h1, l, ((h2.mono (Nat.le_trans hzz HZ.out)).other hR 0 _).other (hR.set_ 0 _) 1 _, h3, h4⟩
    | true =>
      have hE : aimE next nds name val = 0 := by unfold aimE; rw [if_pos h0, h4]; rfl
      rw [hE] at HCg
      have HIS := Lib.hid h4
      have HEE := Lib.hid hE
      clear h0 h4 hE hrt
      go_wp2_with (first | (go_at_call 65; go_must (refine HNm.out.mono ?_; rintro e Y2 ⟨rfl, hb2⟩; have HBW := Lib.hid hb2; obtain ⟨r1, r2, r3, r4, r5, r6, r7, r8⟩ := HSS.out _ hb2; clear hb2)) | (go_at_call 39; go_must (refine (HHas.out _ HBW.out).mono ?_; rintro e Y3 ⟨rfl, hb3⟩; rw [HIS.out]; replace HBW := Lib.hid (HBW.out.trans (hb3.mono HBW.out.size)); obtain ⟨s1, s2, s3, s4, s5, s6, s7, s8⟩ := HSS.out _ HBW.out; clear hb3)) | (go_at_call 66; go_must (refine (HCg.out _ HBW.out).mono ?_; rintro e Y6 ⟨nx6, A6, n6, c6, rfl, hb6, hne6, hok6⟩; have HZ := Lib.hid HBW.out.size; replace HBW := Lib.hid (HBW.out.trans (hb6.mono HBW.out.size)); have HNE := Lib.hid hne6; have HOK := Lib.hid hok6; obtain ⟨t1, t2, t3, t4, t5, t6, t7, t8⟩ := HSS.out _ HBW.out; clear hb6 hne6 hok6)))
      (try rw [Exit.noGoto_ret])
      (try simp only [Exit.inBlock, Exit.then])
      have hres : Try.f21.results = #[.cell 8 24, .tmp 9] := by kernel_rfl
      refine bodyPost_ret (v := .tuple #[.agg #[.int .i64 nx6, .slice A6 n6 c6], .int .i64 (chE 0 nds id)]) ?hr rfl ?_
      case hr =>
        simp only [results, hres]
        go_simp
      have hR := HR0.out.after HBW.out
      have hzz : w.heap.size ≤ W.heap.size := HB0.out.size
      show SetPost _ _ _ _ _ _
      rw [HEE.out]
      refine ⟨nx6, A6, n6, c6, rfl, ?_, HNE.out, fun h0 => ?_⟩
      · exact ((HB0.out.trans (HBW.out.mono hzz)).setCell (p := ⟨w.heap.size + 1 + 1 + 1, 0, none⟩) (by simp only; omega) _).setCell (p := ⟨w.heap.size + 1 + 1 + 1, 1, none⟩) (by simp only; omega) _
      · obtain ⟨h1, l, h2, h3, h4⟩ := HOK.out h0
        exact ⟨h1, l, ((h2.mono (Nat.le_trans hzz HZ.out)).other hR 0 _).other (hR.set_ 0 _) 1 _, h3, h4⟩
  · have hE : aimE next nds name val = nameE next nds name := by unfold aimE; rw [if_neg h0]
    rw [hE] at HCg
    generalize nameE next nds name = e0 at HNm HCg h0 hE
    have HEE := Lib.hid hE
    have d0 : (e0 == 0) = false := by rw [beq_eq_false_iff_ne]; exact h0
    clear hE
    go_wp2_with (first | (go_at_call 65; go_must (refine HNm.out.mono ?_; rintro e Y2 ⟨rfl, hb2⟩; have HBW := Lib.hid hb2; obtain ⟨r1, r2, r3, r4, r5, r6, r7, r8⟩ := HSS.out _ hb2; clear hb2)) | (go_at_call 66; go_must (refine (HCg.out _ HBW.out).mono ?_; rintro e Y6 ⟨nx6, A6, n6, c6, rfl, hb6, hne6, hok6⟩; have HZ := Lib.hid HBW.out.size; replace HBW := Lib.hid (HBW.out.trans (hb6.mono HBW.out.size)); have HNE := Lib.hid hne6; have HOK := Lib.hid hok6; obtain ⟨t1, t2, t3, t4, t5, t6, t7, t8⟩ := HSS.out _ HBW.out; clear hb6 hne6 hok6)))
    (try rw [Exit.noGoto_ret])
    (try simp only [Exit.inBlock, Exit.then])
    have hres : Try.f21.results = #[.cell 8 24, .tmp 9] := by kernel_rfl
    refine bodyPost_ret (v := .tuple #[.agg #[.int .i64 nx6, .slice A6 n6 c6], .int .i64 (chE e0 nds id)]) ?hr rfl ?_
    case hr =>
      simp only [results, hres]
      go_simp
    have hR := HR0.out.after HBW.out
    have hzz : w.heap.size ≤ W.heap.size := HB0.out.size
    show SetPost _ _ _ _ _ _
    rw [HEE.out]
    refine ⟨nx6, A6, n6, c6, rfl, ?_, HNE.out, fun h0 => ?_⟩
    · exact ((HB0.out.trans (HBW.out.mono hzz)).setCell (p := ⟨w.heap.size + 1 + 1 + 1, 0, none⟩) (by simp only; omega) _).setCell (p := ⟨w.heap.size + 1 + 1 + 1, 1, none⟩) (by simp only; omega) _
    · obtain ⟨h1, l, h2, h3, h4⟩ := HOK.out h0
      exact ⟨h1, l, ((h2.mono (Nat.le_trans hzz HZ.out)).other hR 0 _).other (hR.set_ 0 _) 1 _, h3, h4⟩
end Go.Proofs.Yteccblmdfjbljaa
namespace Go.Proofs.Yteccblmdfjbljaa
open Go Go.RowKit Go.Sort
set_option linter.unusedVariables false
theorem sort_cons {k : ByteArray} {ks : List ByteArray} (h : SortS (k :: ks)) : SortS ks ∧ ∀ x ∈ ks, ltS k x = true :=
  ⟨fun i j a b hij ha hb => h (i + 1) (j + 1) a b (by omega) (by simpa using ha) (by simpa using hb), fun x hx => by
    obtain ⟨j, hj⟩ := List.getElem?_of_mem hx
    exact h 0 (j + 1) k x (by omega) rfl (by simpa using hj)⟩
theorem cons_sort {k : ByteArray} {ks : List ByteArray} (h : SortS ks) (hk : ∀ x ∈ ks, ltS k x = true) : SortS (k :: ks) := by
  intro i j a b hij ha hb
  cases j with
  | zero => omega
  | succ j =>
    have hb' : ks[j]? = some b := by simpa using hb
    cases i with
    | zero => cases ha; exact hk b (List.mem_of_getElem? hb')
    | succ i => exact h i j a b (by omega) (by simpa using ha) hb'
theorem props_sort : ∀ (l : List (ByteArray × ByteArray)) (q : Option ByteArray), propsB q l = true → SortS (l.map (·.1)) ∧ ∀ q', q = some q' → ∀ k ∈ l.map (·.1), ltS q' k = true := by
  intro l
  induction l with
  | nil => intro q _; exact ⟨fun i j a b _ ha => by simp at ha, fun _ _ k hk => by simp at hk⟩
  | cons p r ih =>
    intro q h
    simp only [propsB, Bool.and_eq_true] at h
    obtain ⟨h1, h2⟩ := ih (some p.1) h.2
    have h3 := h2 p.1 rfl
    refine ⟨cons_sort h1 h3, ?_⟩
    rintro q' rfl k hk
    have h4 : ltS q' p.1 = true := h.1.2
    rcases List.mem_cons.1 hk with rfl | hk
    · exact h4
    · exact less_trans h4 (h3 k hk)
theorem refs_sort {next : Int} : ∀ (l : List (ByteArray × Int)) (q : Option ByteArray), refsB next q l = true → SortS (l.map (·.1)) ∧ ∀ q', q = some q' → ∀ k ∈ l.map (·.1), ltS q' k = true := by
  intro l
  induction l with
  | nil => intro q _; exact ⟨fun i j a b _ ha => by simp at ha, fun _ _ k hk => by simp at hk⟩
  | cons p r ih =>
    intro q h
    simp only [refsB, Bool.and_eq_true] at h
    obtain ⟨h1, h2⟩ := ih (some p.1) h.2
    have h3 := h2 p.1 rfl
    refine ⟨cons_sort h1 h3, ?_⟩
    rintro q' rfl k hk
    have h4 : ltS q' p.1 = true := h.1.2
    rcases List.mem_cons.1 hk with rfl | hk
    · exact h4
    · exact less_trans h4 (h3 k hk)
theorem right_sorts {next : Int} {nds : List Nd} (h : rightB next nds = true) : ∀ nd ∈ nds, SortS (nd.props.map (·.1)) ∧ SortS (nd.refs.map (·.1)) := by
  intro nd hnd
  have h1 := (rightM h).plain nd hnd
  unfold plainB at h1
  simp only [Bool.and_eq_true] at h1
  exact ⟨(props_sort _ _ h1.1.1.2).1, (refs_sort _ _ h1.1.2).1⟩
section
variable {β : Type}
/-- the list that the document lays -/
def layV (name : ByteArray) (v : β) : Bool → List (ByteArray × β) → List (ByteArray × β)
  | laid, [] => if laid = true then [] else [(name, v)]
  | laid, p :: r => (if laid = false ∧ ltS p.1 name = false then [(name, v)] else []) ++ ((if (p.1.toList == name.toList) = true then [] else [p]) ++ layV name v (laid || !ltS p.1 name) r)
def leaveV (name : ByteArray) (l : List (ByteArray × β)) : List (ByteArray × β) := l.filter fun p => !(p.1.toList == name.toList)
theorem lt_ne {a b : ByteArray} (h : ltS a b = true) : (a.toList == b.toList) = false := by
  rw [beq_eq_false_iff_ne]
  intro e
  unfold ltS at h
  rw [e, less_irrefl] at h
  cases h
/-- behind a name that isn't below, none is -/
theorem beyond {name k : ByteArray} {ks : List ByteArray} (hk : ∀ x ∈ ks, ltS k x = true) (h : ltS k name = false) : rankS ks name = 0 ∧ ∀ x ∈ ks, (x.toList == name.toList) = false := by
  refine ⟨?_, fun x hx => ?_⟩
  · unfold rankS
    rw [List.countP_eq_zero]
    intro x hx hlt
    have := less_trans (hk x hx) hlt
    unfold ltS at h
    rw [this] at h; cases h
  · rw [beq_eq_false_iff_ne]
    intro e
    have h1 := hk x hx
    unfold ltS at h1 h
    rw [e, h] at h1; cases h1
theorem layV_laid (name : ByteArray) (v : β) : ∀ (l : List (ByteArray × β)), (∀ p ∈ l, (p.1.toList == name.toList) = false) → layV name v true l = l := by
  intro l
  induction l with
  | nil => intro _; rfl
  | cons p r ih =>
    intro h
    simp only [layV, h p (List.mem_cons_self ..), Bool.true_or, ih (fun x hx => h x (List.mem_cons_of_mem _ hx))]
    simp
theorem layV_eq (name : ByteArray) (v : β) : ∀ (l : List (ByteArray × β)), SortS (l.map (·.1)) →
    layV name v false l = if foundS (l.map (·.1)) name = true then l.modify (rankS (l.map (·.1)) name) (fun x => (x.1, v)) else insL l (rankS (l.map (·.1)) name) (name, v) := by
  intro l
  induction l with
  | nil => intro _; rfl
  | cons p r ih =>
    intro hs
    have hs' : SortS (p.1 :: r.map (·.1)) := hs
    obtain ⟨h1, h2⟩ := sort_cons hs'
    cases hlt : ltS p.1 name with
    | true =>
      have hne := lt_ne hlt
      have hr : rankS ((p :: r).map (·.1)) name = rankS (r.map (·.1)) name + 1 := by
        unfold rankS
        rw [List.map_cons, List.countP_cons_of_pos (p := fun k => ltS k name) (a := p.1) hlt]
      have hf : foundS ((p :: r).map (·.1)) name = foundS (r.map (·.1)) name := by
        unfold foundS
        rw [List.map_cons, List.any_cons, hne, Bool.false_or]
      rw [hr, hf]
      have hL : layV name v false (p :: r) = p :: layV name v false r := by simp [layV, hlt, hne]
      rw [hL, ih h1]
      by_cases hfr : foundS (r.map (·.1)) name = true
      · rw [if_pos hfr, if_pos hfr, List.modify_succ_cons]
      · rw [if_neg hfr, if_neg hfr]; simp [insL]
    | false =>
      obtain ⟨h3, h4⟩ := beyond h2 hlt
      have hr : rankS ((p :: r).map (·.1)) name = 0 := by
        unfold rankS at h3 ⊢
        rw [List.map_cons, List.countP_cons_of_neg (by rw [hlt]; decide)]
        exact h3
      have hl := layV_laid name v r (fun x hx => h4 x.1 (List.mem_map_of_mem hx))
      have hfr : foundS (r.map (·.1)) name = false := by
        unfold foundS
        rw [List.any_eq_false]
        intro x hx
        rw [h4 x hx]; decide
      cases he : (p.1.toList == name.toList) with
      | true =>
        have hf : foundS ((p :: r).map (·.1)) name = true := by
          unfold foundS
          rw [List.map_cons, List.any_cons, he, Bool.true_or]
        have hpn : p.1 = name := str_eq.1 (by simpa using he)
        rw [hr, if_pos hf]
        simp only [layV, hlt, he, Bool.not_false, Bool.or_true, hl]
        simp [hpn]
      | false =>
        have hf : foundS ((p :: r).map (·.1)) name = false := by
          unfold foundS at hfr ⊢
          rw [List.map_cons, List.any_cons, he, Bool.false_or]; exact hfr
        rw [hr, if_neg (by rw [hf]; decide)]
        simp only [layV, hlt, he, Bool.not_false, Bool.or_true, hl]
        simp [insL]
theorem leaveV_eq (name : ByteArray) : ∀ (l : List (ByteArray × β)), SortS (l.map (·.1)) → leaveV name l = if foundS (l.map (·.1)) name = true then l.eraseIdx (rankS (l.map (·.1)) name) else l := by
  intro l
  induction l with
  | nil => intro _; rfl
  | cons p r ih =>
    intro hs
    have hs' : SortS (p.1 :: r.map (·.1)) := hs
    obtain ⟨h1, h2⟩ := sort_cons hs'
    cases hlt : ltS p.1 name with
    | true =>
      have hne := lt_ne hlt
      have hr : rankS ((p :: r).map (·.1)) name = rankS (r.map (·.1)) name + 1 := by
        unfold rankS
        rw [List.map_cons, List.countP_cons_of_pos (p := fun k => ltS k name) (a := p.1) hlt]
      have hf : foundS ((p :: r).map (·.1)) name = foundS (r.map (·.1)) name := by
        unfold foundS
        rw [List.map_cons, List.any_cons, hne, Bool.false_or]
      have ih' := ih h1
      unfold leaveV at ih' ⊢
      rw [hr, hf, List.filter_cons_of_pos (by rw [hne]; rfl), ih']
      split <;> simp
    | false =>
      obtain ⟨h3, h4⟩ := beyond h2 hlt
      have hr : rankS ((p :: r).map (·.1)) name = 0 := by
        unfold rankS at h3 ⊢
        rw [List.map_cons, List.countP_cons_of_neg (by rw [hlt]; decide)]
        exact h3
      have hl : r.filter (fun p => !(p.1.toList == name.toList)) = r := List.filter_eq_self.2 fun x hx => by rw [h4 x.1 (List.mem_map_of_mem hx)]; rfl
      have hfr : foundS (r.map (·.1)) name = false := by
        unfold foundS
        rw [List.any_eq_false]
        intro x hx
        rw [h4 x hx]; decide
      unfold leaveV
      cases he : (p.1.toList == name.toList) with
      | true =>
        have hf : foundS ((p :: r).map (·.1)) name = true := by
          unfold foundS
          rw [List.map_cons, List.any_cons, he, Bool.true_or]
        rw [hr, if_pos hf, List.filter_cons_of_neg (by rw [he]; decide), hl]
        rfl
      | false =>
        have hf : foundS ((p :: r).map (·.1)) name = false := by
          unfold foundS at hfr ⊢
          rw [List.map_cons, List.any_cons, he, Bool.false_or]; exact hfr
        rw [if_neg (by rw [hf]; decide), List.filter_cons_of_pos (by rw [he]; rfl), hl]
end
end Go.Proofs.Yteccblmdfjbljaa

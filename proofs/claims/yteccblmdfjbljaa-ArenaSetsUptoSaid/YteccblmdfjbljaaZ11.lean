/-
  WALKS: slices.Delete of one element of a list of a node's own, in place.
  MEMORY: the block of one node's properties, or references, turns.
  WALKS: what Drop and Loose do to a node.
-/
import Derived.Test.YteccblmdfjbljaaZ10
namespace Go.Proofs.Yteccblmdfjbljaa
open Go Go.RowKit Go.Sort
set_option linter.unusedVariables false
attribute [local go_sem ↓] Go.wp_at_zero Go.wp_at_succ
section
variable {P : Program} (w : World)
/-- clear of one element of two cells -/
theorem run_clear_two (t ty e : TypeId) (i : TypeInfo) (z : Value) (u v : Value) (ht : P.underlying t = some (.slice e)) (hi : P.info? e = some i) (hz : i.zero = some z) (hzc : z.cells = #[u, v])
    (g o c : Nat) (cur : Array Value) (hg : w.heap[g]? = some (.cells cur e (0, 0))) (hfit : o + 2 ≤ cur.size) (h1 : ∀ x ∈ [u, v], x.oneCell' = true) :
    (Builtin.clear_ #[t] ty #[.slice (some ⟨g, o, none⟩) 1 c]).run P w = .ok (.tuple #[]) (w.setRow g (cur.toList.take o ++ [u, v] ++ cur.toList.drop (o + 2)).toArray) := by
  have hst := run_storeCells_at P g o e [u, v] 0 cur w hg (by simpa using hfit) h1
  simp only [Nat.add_zero] at hst
  have hzz : (Builtin.zeroCells z.cells 1).toList = [u, v] := by
    rw [hzc]
    apply List.ext_getElem
    · simp [Builtin.zeroCells]
    · intro j j1 j2
      have hj : j < 2 := by simpa using j2
      match j, hj with
      | 0, _ => simp [Builtin.zeroCells]
      | 1, _ => simp [Builtin.zeroCells]
  simp [Builtin.clear_, run_underlying ht, zeroValue, typeInfo, hi, hz, hzz, hst, -List.append_assoc]
end
/-- the cells behind an element that is taken away -/
theorem erase_flat {α : Type} (f : α → List Value) (hf : ∀ a, (f a).length = 2) (l : List α) (k : Nat) (hk : k < l.length) : (l.eraseIdx k).flatMap f = (l.flatMap f).take (k * 2) ++ (l.flatMap f).drop ((k + 1) * 2) := by
  have e : l.flatMap f = (l.take k).flatMap f ++ (l.drop k).flatMap f := by rw [← List.flatMap_append, List.take_append_drop]
  have e' : l.flatMap f = (l.take (k + 1)).flatMap f ++ (l.drop (k + 1)).flatMap f := by rw [← List.flatMap_append, List.take_append_drop]
  have hl : ((l.take k).flatMap f).length = k * 2 := by rw [flatN_len hf, List.length_take, Nat.min_eq_left (by omega)]
  have hl' : ((l.take (k + 1)).flatMap f).length = (k + 1) * 2 := by rw [flatN_len hf, List.length_take, Nat.min_eq_left (by omega)]
  rw [List.eraseIdx_eq_take_drop_succ, List.flatMap_append]
  congr 1
  · rw [e, List.take_left' hl]
  · rw [e', List.drop_left' hl']
set_option maxRecDepth 20000 in
set_option maxHeartbeats 1600000 in
theorem delProp_last (w : World) (g n1 k k1 : Nat) (l : List (ByteArray × ByteArray)) (hg : Blk w g 83 (propCells l).toArray) (hl : l.length = n1 + 1) (hk1 : k1 = k + 1) (hk : k = n1) (hm : n1 + 1 ≤ maxLen) :
    Calls Try.prog 71 #[.slice (some ⟨g, 0, none⟩) (n1 + 1) (n1 + 1), .int .i64 k, .int .i64 ((n1 + 1 : Nat) : Int)] w fun e w' => e = .returned (.slice (some ⟨g, 0, none⟩) n1 (n1 + 1)) ∧ w' = w.drew.setRow g (propCells (l.eraseIdx k) ++ [Value.string ⟨#[]⟩, Value.string ⟨#[]⟩]).toArray := by
  obtain ⟨i0, hi0, hz0, hz1, hz2⟩ := info_parts propInfo
  have hcell : propCells (l.eraseIdx k) = (propCells l).take (k * 2) ++ (propCells l).drop ((k + 1) * 2) := erase_flat _ (fun _ => rfl) l k (by omega)
  rw [hcell, ← hk1]
  have hxl : (propCells l).length = (n1 + 1) * 2 := by rw [propCells_length, hl]
  have hone := propCells_one l
  clear hcell
  have hgd : Blk w.drew g 83 (propCells l).toArray := hg

  have hrun := run_append_room (P := Try.prog) w.drew 77 77 83 i0 Try.underlying77 hi0 g k (n1 + 1) (propCells l).toArray hgd ⟨g, 0, none⟩ 0 0 [] (by rw [hz1]; rfl) (fun j u hu => by simp at hu) (by simp) (by omega) (by rw [hz1]; simp only [List.size_toArray, hxl, List.length_nil]; omega)
  rw [show k + 0 = n1 from by omega, hz1] at hrun
  generalize hcA : ((propCells l).toArray.toList.take (k * 2) ++ [] ++ (propCells l).toArray.toList.drop (k * 2 + ([] : List Value).length)).toArray = cA at hrun
  have hcA1 : cA.size = (n1 + 1) * 2 := by
    rw [← hcA]
    simp only [List.size_toArray, List.length_append, List.length_take, List.length_drop, List.length_nil, hxl]
    omega
  have hcA2 : cA.toList.take (n1 * 2) = (propCells l).take (k * 2) ++ (propCells l).drop (k1 * 2) := by
    rw [← hcA]
    simp only [List.toList_toArray]
    have hx0 : (propCells l).drop (k1 * 2) = [] := List.drop_eq_nil_of_le (by omega)
    simp only [hx0, List.append_nil]
    rw [ List.take_left' (by rw [List.length_take, hxl]; omega)]
  have hcA3 : cA.toList.drop (n1 * 2 + 2) = [] := List.drop_eq_nil_of_le (by rw [Array.length_toList]; omega)
  have hgA : Blk (w.drew.setRow g cA) g 83 cA := setRow_heap w.drew g _ cA 83 (0, 0) hgd
  have hcl := fun ty => run_clear_two (P := Try.prog) (w.drew.setRow g cA) 77 ty 83 i0 _ _ _ Try.underlying77 hi0 hz0 rfl g (n1 * 2) 1 cA hgA (by omega) (by simp [Value.oneCell'])
  have hfin : (w.drew.setRow g cA).setRow g (cA.toList.take (n1 * 2) ++ [Value.string ⟨#[]⟩, Value.string ⟨#[]⟩] ++ cA.toList.drop (n1 * 2 + 2)).toArray = w.drew.setRow g ((propCells l).take (k * 2) ++ (propCells l).drop (k1 * 2) ++ [Value.string ⟨#[]⟩, Value.string ⟨#[]⟩]).toArray := by
    rw [setRow_setRow, hcA2, hcA3, List.append_nil]
  have HRN := Lib.hid hrun
  have hrc := hcl 0
  have HFI := Lib.hid hfin
  have hm3 : n1 + 1 ≤ 9223372036854775807 := hm
  obtain rfl := hk
  subst hk1
  have hkk : ¬ (k : Int) = (k : Int) + 1 := by omega
  have hkj : ¬ (k : Int) + 1 < (k : Int) := by omega
  have hk0 : ¬ (k : Int) + 1 < 0 := by omega
  clear hrun hcl hfin hgA hcA1 hcA2 hcA3 hcA hgd hg hone hm
  go_enter Try.func71, Try.ntmps71
  go_upto_region 5 with fail
  refine wp_region_held_tail 6 (fun w' => True) (by kernel_rfl) (by kernel_rfl) trivial (fun hHeld => ?qt0)
  case qt0 =>
    simp only [List.take_succ_cons, List.take_zero, List.drop_succ_cons, List.drop_zero]
    refine wpAnyH_take (i := 0) (v := (.slice (some ⟨g, 0, none⟩) (k + 1) (k + 1))) rfl (by kernel_rfl) (by kernel_rfl) (by kernel_rfl) (fun _ _ _ h => h) (Or.inl ⟨by rfl, ?yt_1⟩) (by assumption) ?qt_1
    case yt_1 => (intro w hSw; (try dsimp only at hSw); go_simp)
    case qt_1 =>
      (try simp only [Act.put]); (try simp only [List.setIfInBounds_toArray])
      refine wpAnyH_take (i := 1) (v := (.int .i64 k)) rfl (by kernel_rfl) (by kernel_rfl) (by kernel_rfl) (fun _ _ _ h => h) (Or.inl ⟨by rfl, ?yt_2⟩) (by assumption) ?qt_2
      case yt_2 => (intro w hSw; (try dsimp only at hSw); go_simp)
      case qt_2 =>
        (try simp only [Act.put]); (try simp only [List.setIfInBounds_toArray])
        refine wpAnyH_take (i := 2) (v := (.slice (some ⟨g, 0, none⟩) k (k + 1))) rfl (by kernel_rfl) (by kernel_rfl) (by kernel_rfl) (fun _ _ _ h => h) (Or.inl ⟨by rfl, ?yt_3⟩) (by assumption) ?qt_3
        case yt_3 => (intro w hSw; (try dsimp only at hSw); go_simp)
        case qt_3 =>
          (try simp only [Act.put]); (try simp only [List.setIfInBounds_toArray])
          refine wpAnyH_take (i := 3) (v := (.slice (some ⟨g, 0, none⟩) (k + 1) (k + 1))) rfl (by kernel_rfl) (by kernel_rfl) (by kernel_rfl) (fun _ _ _ h => h) (Or.inl ⟨by rfl, ?yt_4⟩) (by assumption) ?qt_4
          case yt_4 => (intro w hSw; (try dsimp only at hSw); go_simp)
          case qt_4 =>
            (try simp only [Act.put]); (try simp only [List.setIfInBounds_toArray])
            refine wpAnyH_take (i := 4) (v := (.int .i64 ((k + 1 : Nat) : Int))) rfl (by kernel_rfl) (by kernel_rfl) (by kernel_rfl) (fun _ _ _ h => h) (Or.inl ⟨by rfl, ?yt_5⟩) (by assumption) ?qt_5
            case yt_5 => (intro w hSw; (try dsimp only at hSw); go_simp)
            case qt_5 =>
              (try simp only [Act.put]); (try simp only [List.setIfInBounds_toArray])
              refine wpAnyH_take (i := 5) (v := (.slice (some ⟨g, 0, none⟩) 0 0)) rfl (by kernel_rfl) (by kernel_rfl) (by kernel_rfl) (fun _ _ _ h => h) (Or.inl ⟨by rfl, ?yt_6⟩) (by assumption) ?qt_6
              case yt_6 => (intro w hSw; (try dsimp only at hSw); go_simp)
              case qt_6 =>
                (try simp only [Act.put]); (try simp only [List.setIfInBounds_toArray])
                refine wpAnyH_done (by kernel_rfl) ?_ _
                show wpList _ _ _ _ _ _
                go_wp2_with (at_builtin; go_must (refine wpList_app_run _ rfl (.tmp 22) (.tmp 25) _ _ rfl _ _ rfl rfl _ _ HRN.out ?_))
                go_ret
                refine ⟨rfl, ?_⟩
                have hfo := HFI.out
                simp only [List.append_assoc, List.cons_append, List.nil_append] at hfo ⊢
                exact hfo
set_option maxRecDepth 20000 in
set_option maxHeartbeats 1600000 in
theorem delProp_in (w : World) (g n1 k k1 : Nat) (l : List (ByteArray × ByteArray)) (hg : Blk w g 83 (propCells l).toArray) (hl : l.length = n1 + 1) (hk1 : k1 = k + 1) (hk : k < n1) (hm : n1 + 1 ≤ maxLen) :
    Calls Try.prog 71 #[.slice (some ⟨g, 0, none⟩) (n1 + 1) (n1 + 1), .int .i64 k, .int .i64 k1] w fun e w' => e = .returned (.slice (some ⟨g, 0, none⟩) n1 (n1 + 1)) ∧ w' = w.drew.setRow g (propCells (l.eraseIdx k) ++ [Value.string ⟨#[]⟩, Value.string ⟨#[]⟩]).toArray := by
  obtain ⟨i0, hi0, hz0, hz1, hz2⟩ := info_parts propInfo
  have hcell : propCells (l.eraseIdx k) = (propCells l).take (k * 2) ++ (propCells l).drop ((k + 1) * 2) := erase_flat _ (fun _ => rfl) l k (by omega)
  rw [hcell, ← hk1]
  have hxl : (propCells l).length = (n1 + 1) * 2 := by rw [propCells_length, hl]
  have hone := propCells_one l
  clear hcell
  have hgd : Blk w.drew g 83 (propCells l).toArray := hg

  have hrun := run_append_room (P := Try.prog) w.drew 77 77 83 i0 Try.underlying77 hi0 g k (n1 + 1) (propCells l).toArray hgd ⟨g, k1 * 2, none⟩ (n1 + 1 - k1) (n1 + 1 - k1) ((propCells l).drop (k1 * 2)) (by rw [hz1]; rw [List.length_drop, hxl, ← Nat.sub_mul]) (fun j u hu => by
    rw [Addr.add_lit, hgd.cell]
    rw [List.getElem?_drop] at hu
    simpa using hu) (fun u hu => hone u (List.mem_of_mem_drop hu)) (by omega) (by rw [hz1]; simp only [List.size_toArray, hxl, List.length_drop]; omega)
  rw [show k + (n1 + 1 - k1) = n1 from by omega, hz1] at hrun
  generalize hcA : ((propCells l).toArray.toList.take (k * 2) ++ ((propCells l).drop (k1 * 2)) ++ (propCells l).toArray.toList.drop (k * 2 + (((propCells l).drop (k1 * 2)) : List Value).length)).toArray = cA at hrun
  have hcA1 : cA.size = (n1 + 1) * 2 := by
    rw [← hcA]
    simp only [List.size_toArray, List.length_append, List.length_take, List.length_drop, List.length_nil, hxl]
    omega
  have hcA2 : cA.toList.take (n1 * 2) = (propCells l).take (k * 2) ++ (propCells l).drop (k1 * 2) := by
    rw [← hcA]
    simp only [List.toList_toArray]
    rw [List.take_left' (by simp only [List.length_append, List.length_take, List.length_drop, hxl]; omega)]
  have hcA3 : cA.toList.drop (n1 * 2 + 2) = [] := List.drop_eq_nil_of_le (by rw [Array.length_toList]; omega)
  have hgA : Blk (w.drew.setRow g cA) g 83 cA := setRow_heap w.drew g _ cA 83 (0, 0) hgd
  have hcl := fun ty => run_clear_two (P := Try.prog) (w.drew.setRow g cA) 77 ty 83 i0 _ _ _ Try.underlying77 hi0 hz0 rfl g (n1 * 2) 1 cA hgA (by omega) (by simp [Value.oneCell'])
  have hfin : (w.drew.setRow g cA).setRow g (cA.toList.take (n1 * 2) ++ [Value.string ⟨#[]⟩, Value.string ⟨#[]⟩] ++ cA.toList.drop (n1 * 2 + 2)).toArray = w.drew.setRow g ((propCells l).take (k * 2) ++ (propCells l).drop (k1 * 2) ++ [Value.string ⟨#[]⟩, Value.string ⟨#[]⟩]).toArray := by
    rw [setRow_setRow, hcA2, hcA3, List.append_nil]
  have HRN := Lib.hid hrun
  have hrc := hcl 0
  have HFI := Lib.hid hfin
  have hm3 : n1 + 1 ≤ 9223372036854775807 := hm
  have hkk : ¬ k = k1 := by omega
  have hkl : k ≤ k1 := by omega
  have hkn : k ≤ n1 + 1 := by omega
  have hkn1 : k1 ≤ n1 + 1 := by omega
  have hkn2 : ¬ n1 + 1 = k1 := by omega
  have hki : ¬ (n1 : Int) + 1 < (k1 : Int) := by omega
  have hkj : ¬ (n1 : Int) + 1 < (k : Int) := by omega
  clear hrun hcl hfin hgA hcA1 hcA2 hcA3 hcA hgd hg hone hm hk1 hk
  go_enter Try.func71, Try.ntmps71
  go_upto_region 5 with fail
  refine wp_region_held_tail 6 (fun w' => True) (by kernel_rfl) (by kernel_rfl) trivial (fun hHeld => ?qt0)
  case qt0 =>
    simp only [List.take_succ_cons, List.take_zero, List.drop_succ_cons, List.drop_zero]
    refine wpAnyH_take (i := 0) (v := (.slice (some ⟨g, 0, none⟩) (n1 + 1) (n1 + 1))) rfl (by kernel_rfl) (by kernel_rfl) (by kernel_rfl) (fun _ _ _ h => h) (Or.inl ⟨by rfl, ?yt_1⟩) (by assumption) ?qt_1
    case yt_1 => (intro w hSw; (try dsimp only at hSw); go_simp)
    case qt_1 =>
      (try simp only [Act.put]); (try simp only [List.setIfInBounds_toArray])
      refine wpAnyH_take (i := 1) (v := (.int .i64 k)) rfl (by kernel_rfl) (by kernel_rfl) (by kernel_rfl) (fun _ _ _ h => h) (Or.inl ⟨by rfl, ?yt_2⟩) (by assumption) ?qt_2
      case yt_2 => (intro w hSw; (try dsimp only at hSw); go_simp)
      case qt_2 =>
        (try simp only [Act.put]); (try simp only [List.setIfInBounds_toArray])
        refine wpAnyH_take (i := 2) (v := (.slice (some ⟨g, 0, none⟩) k (n1 + 1))) rfl (by kernel_rfl) (by kernel_rfl) (by kernel_rfl) (fun _ _ _ h => h) (Or.inl ⟨by rfl, ?yt_3⟩) (by assumption) ?qt_3
        case yt_3 => (intro w hSw; (try dsimp only at hSw); go_simp)
        case qt_3 =>
          (try simp only [Act.put]); (try simp only [List.setIfInBounds_toArray])
          refine wpAnyH_take (i := 3) (v := (.slice (some ⟨g, 0, none⟩) (n1 + 1) (n1 + 1))) rfl (by kernel_rfl) (by kernel_rfl) (by kernel_rfl) (fun _ _ _ h => h) (Or.inl ⟨by rfl, ?yt_4⟩) (by assumption) ?qt_4
          case yt_4 => (intro w hSw; (try dsimp only at hSw); go_simp)
          case qt_4 =>
            (try simp only [Act.put]); (try simp only [List.setIfInBounds_toArray])
            refine wpAnyH_take (i := 4) (v := (.int .i64 k1)) rfl (by kernel_rfl) (by kernel_rfl) (by kernel_rfl) (fun _ _ _ h => h) (Or.inl ⟨by rfl, ?yt_5⟩) (by assumption) ?qt_5
            case yt_5 => (intro w hSw; (try dsimp only at hSw); go_simp)
            case qt_5 =>
              (try simp only [Act.put]); (try simp only [List.setIfInBounds_toArray])
              refine wpAnyH_take (i := 5) (v := (.slice (some ⟨g, k1 * 2, none⟩) (n1 + 1 - k1) (n1 + 1 - k1))) rfl (by kernel_rfl) (by kernel_rfl) (by kernel_rfl) (fun _ _ _ h => h) (Or.inl ⟨by rfl, ?yt_6⟩) (by assumption) ?qt_6
              case yt_6 => (intro w hSw; (try dsimp only at hSw); go_simp)
              case qt_6 =>
                (try simp only [Act.put]); (try simp only [List.setIfInBounds_toArray])
                refine wpAnyH_done (by kernel_rfl) ?_ _
                show wpList _ _ _ _ _ _
                go_wp2_with (at_builtin; go_must (refine wpList_app_run _ rfl (.tmp 22) (.tmp 25) _ _ rfl _ _ rfl rfl _ _ HRN.out ?_))
                go_ret
                refine ⟨rfl, ?_⟩
                have hfo := HFI.out
                simp only [List.append_assoc, List.cons_append, List.nil_append] at hfo ⊢
                exact hfo
set_option maxRecDepth 20000 in
set_option maxHeartbeats 1600000 in
theorem delRef_last (w : World) (g n1 k k1 : Nat) (l : List (ByteArray × Int)) (hg : Blk w g 85 (refCells l).toArray) (hl : l.length = n1 + 1) (hk1 : k1 = k + 1) (hk : k = n1) (hm : n1 + 1 ≤ maxLen) :
    Calls Try.prog 76 #[.slice (some ⟨g, 0, none⟩) (n1 + 1) (n1 + 1), .int .i64 k, .int .i64 ((n1 + 1 : Nat) : Int)] w fun e w' => e = .returned (.slice (some ⟨g, 0, none⟩) n1 (n1 + 1)) ∧ w' = w.drew.setRow g (refCells (l.eraseIdx k) ++ [Value.string ⟨#[]⟩, Value.int .i64 0]).toArray := by
  obtain ⟨i0, hi0, hz0, hz1, hz2⟩ := info_parts refInfo
  have hcell : refCells (l.eraseIdx k) = (refCells l).take (k * 2) ++ (refCells l).drop ((k + 1) * 2) := erase_flat _ (fun _ => rfl) l k (by omega)
  rw [hcell, ← hk1]
  have hxl : (refCells l).length = (n1 + 1) * 2 := by rw [refCells_length, hl]
  have hone := refCells_one l
  clear hcell
  have hgd : Blk w.drew g 85 (refCells l).toArray := hg

  have hrun := run_append_room (P := Try.prog) w.drew 79 79 85 i0 Try.underlying79 hi0 g k (n1 + 1) (refCells l).toArray hgd ⟨g, 0, none⟩ 0 0 [] (by rw [hz1]; rfl) (fun j u hu => by simp at hu) (by simp) (by omega) (by rw [hz1]; simp only [List.size_toArray, hxl, List.length_nil]; omega)
  rw [show k + 0 = n1 from by omega, hz1] at hrun
  generalize hcA : ((refCells l).toArray.toList.take (k * 2) ++ [] ++ (refCells l).toArray.toList.drop (k * 2 + ([] : List Value).length)).toArray = cA at hrun
  have hcA1 : cA.size = (n1 + 1) * 2 := by
    rw [← hcA]
    simp only [List.size_toArray, List.length_append, List.length_take, List.length_drop, List.length_nil, hxl]
    omega
  have hcA2 : cA.toList.take (n1 * 2) = (refCells l).take (k * 2) ++ (refCells l).drop (k1 * 2) := by
    rw [← hcA]
    simp only [List.toList_toArray]
    have hx0 : (refCells l).drop (k1 * 2) = [] := List.drop_eq_nil_of_le (by omega)
    simp only [hx0, List.append_nil]
    rw [ List.take_left' (by rw [List.length_take, hxl]; omega)]
  have hcA3 : cA.toList.drop (n1 * 2 + 2) = [] := List.drop_eq_nil_of_le (by rw [Array.length_toList]; omega)
  have hgA : Blk (w.drew.setRow g cA) g 85 cA := setRow_heap w.drew g _ cA 85 (0, 0) hgd
  have hcl := fun ty => run_clear_two (P := Try.prog) (w.drew.setRow g cA) 79 ty 85 i0 _ _ _ Try.underlying79 hi0 hz0 rfl g (n1 * 2) 1 cA hgA (by omega) (by simp [Value.oneCell'])
  have hfin : (w.drew.setRow g cA).setRow g (cA.toList.take (n1 * 2) ++ [Value.string ⟨#[]⟩, Value.int .i64 0] ++ cA.toList.drop (n1 * 2 + 2)).toArray = w.drew.setRow g ((refCells l).take (k * 2) ++ (refCells l).drop (k1 * 2) ++ [Value.string ⟨#[]⟩, Value.int .i64 0]).toArray := by
    rw [setRow_setRow, hcA2, hcA3, List.append_nil]
  have HRN := Lib.hid hrun
  have hrc := hcl 0
  have HFI := Lib.hid hfin
  have hm3 : n1 + 1 ≤ 9223372036854775807 := hm
  obtain rfl := hk
  subst hk1
  have hkk : ¬ (k : Int) = (k : Int) + 1 := by omega
  have hkj : ¬ (k : Int) + 1 < (k : Int) := by omega
  have hk0 : ¬ (k : Int) + 1 < 0 := by omega
  clear hrun hcl hfin hgA hcA1 hcA2 hcA3 hcA hgd hg hone hm
  go_enter Try.func76, Try.ntmps76
  go_upto_region 5 with fail
  refine wp_region_held_tail 6 (fun w' => True) (by kernel_rfl) (by kernel_rfl) trivial (fun hHeld => ?qt0)
  case qt0 =>
    simp only [List.take_succ_cons, List.take_zero, List.drop_succ_cons, List.drop_zero]
    refine wpAnyH_take (i := 0) (v := (.slice (some ⟨g, 0, none⟩) (k + 1) (k + 1))) rfl (by kernel_rfl) (by kernel_rfl) (by kernel_rfl) (fun _ _ _ h => h) (Or.inl ⟨by rfl, ?yt_1⟩) (by assumption) ?qt_1
    case yt_1 => (intro w hSw; (try dsimp only at hSw); go_simp)
    case qt_1 =>
      (try simp only [Act.put]); (try simp only [List.setIfInBounds_toArray])
      refine wpAnyH_take (i := 1) (v := (.int .i64 k)) rfl (by kernel_rfl) (by kernel_rfl) (by kernel_rfl) (fun _ _ _ h => h) (Or.inl ⟨by rfl, ?yt_2⟩) (by assumption) ?qt_2
      case yt_2 => (intro w hSw; (try dsimp only at hSw); go_simp)
      case qt_2 =>
        (try simp only [Act.put]); (try simp only [List.setIfInBounds_toArray])
        refine wpAnyH_take (i := 2) (v := (.slice (some ⟨g, 0, none⟩) k (k + 1))) rfl (by kernel_rfl) (by kernel_rfl) (by kernel_rfl) (fun _ _ _ h => h) (Or.inl ⟨by rfl, ?yt_3⟩) (by assumption) ?qt_3
        case yt_3 => (intro w hSw; (try dsimp only at hSw); go_simp)
        case qt_3 =>
          (try simp only [Act.put]); (try simp only [List.setIfInBounds_toArray])
          refine wpAnyH_take (i := 3) (v := (.slice (some ⟨g, 0, none⟩) (k + 1) (k + 1))) rfl (by kernel_rfl) (by kernel_rfl) (by kernel_rfl) (fun _ _ _ h => h) (Or.inl ⟨by rfl, ?yt_4⟩) (by assumption) ?qt_4
          case yt_4 => (intro w hSw; (try dsimp only at hSw); go_simp)
          case qt_4 =>
            (try simp only [Act.put]); (try simp only [List.setIfInBounds_toArray])
            refine wpAnyH_take (i := 4) (v := (.int .i64 ((k + 1 : Nat) : Int))) rfl (by kernel_rfl) (by kernel_rfl) (by kernel_rfl) (fun _ _ _ h => h) (Or.inl ⟨by rfl, ?yt_5⟩) (by assumption) ?qt_5
            case yt_5 => (intro w hSw; (try dsimp only at hSw); go_simp)
            case qt_5 =>
              (try simp only [Act.put]); (try simp only [List.setIfInBounds_toArray])
              refine wpAnyH_take (i := 5) (v := (.slice (some ⟨g, 0, none⟩) 0 0)) rfl (by kernel_rfl) (by kernel_rfl) (by kernel_rfl) (fun _ _ _ h => h) (Or.inl ⟨by rfl, ?yt_6⟩) (by assumption) ?qt_6
              case yt_6 => (intro w hSw; (try dsimp only at hSw); go_simp)
              case qt_6 =>
                (try simp only [Act.put]); (try simp only [List.setIfInBounds_toArray])
                refine wpAnyH_done (by kernel_rfl) ?_ _
                show wpList _ _ _ _ _ _
                go_wp2_with (at_builtin; go_must (refine wpList_app_run _ rfl (.tmp 22) (.tmp 25) _ _ rfl _ _ rfl rfl _ _ HRN.out ?_))
                go_ret
                refine ⟨rfl, ?_⟩
                have hfo := HFI.out
                simp only [List.append_assoc, List.cons_append, List.nil_append] at hfo ⊢
                exact hfo
set_option maxRecDepth 20000 in
set_option maxHeartbeats 1600000 in
theorem delRef_in (w : World) (g n1 k k1 : Nat) (l : List (ByteArray × Int)) (hg : Blk w g 85 (refCells l).toArray) (hl : l.length = n1 + 1) (hk1 : k1 = k + 1) (hk : k < n1) (hm : n1 + 1 ≤ maxLen) :
    Calls Try.prog 76 #[.slice (some ⟨g, 0, none⟩) (n1 + 1) (n1 + 1), .int .i64 k, .int .i64 k1] w fun e w' => e = .returned (.slice (some ⟨g, 0, none⟩) n1 (n1 + 1)) ∧ w' = w.drew.setRow g (refCells (l.eraseIdx k) ++ [Value.string ⟨#[]⟩, Value.int .i64 0]).toArray := by
  obtain ⟨i0, hi0, hz0, hz1, hz2⟩ := info_parts refInfo
  have hcell : refCells (l.eraseIdx k) = (refCells l).take (k * 2) ++ (refCells l).drop ((k + 1) * 2) := erase_flat _ (fun _ => rfl) l k (by omega)
  rw [hcell, ← hk1]
  have hxl : (refCells l).length = (n1 + 1) * 2 := by rw [refCells_length, hl]
  have hone := refCells_one l
  clear hcell
  have hgd : Blk w.drew g 85 (refCells l).toArray := hg

  have hrun := run_append_room (P := Try.prog) w.drew 79 79 85 i0 Try.underlying79 hi0 g k (n1 + 1) (refCells l).toArray hgd ⟨g, k1 * 2, none⟩ (n1 + 1 - k1) (n1 + 1 - k1) ((refCells l).drop (k1 * 2)) (by rw [hz1]; rw [List.length_drop, hxl, ← Nat.sub_mul]) (fun j u hu => by
    rw [Addr.add_lit, hgd.cell]
    rw [List.getElem?_drop] at hu
    simpa using hu) (fun u hu => hone u (List.mem_of_mem_drop hu)) (by omega) (by rw [hz1]; simp only [List.size_toArray, hxl, List.length_drop]; omega)
  rw [show k + (n1 + 1 - k1) = n1 from by omega, hz1] at hrun
  generalize hcA : ((refCells l).toArray.toList.take (k * 2) ++ ((refCells l).drop (k1 * 2)) ++ (refCells l).toArray.toList.drop (k * 2 + (((refCells l).drop (k1 * 2)) : List Value).length)).toArray = cA at hrun
  have hcA1 : cA.size = (n1 + 1) * 2 := by
    rw [← hcA]
    simp only [List.size_toArray, List.length_append, List.length_take, List.length_drop, List.length_nil, hxl]
    omega
  have hcA2 : cA.toList.take (n1 * 2) = (refCells l).take (k * 2) ++ (refCells l).drop (k1 * 2) := by
    rw [← hcA]
    simp only [List.toList_toArray]
    rw [List.take_left' (by simp only [List.length_append, List.length_take, List.length_drop, hxl]; omega)]
  have hcA3 : cA.toList.drop (n1 * 2 + 2) = [] := List.drop_eq_nil_of_le (by rw [Array.length_toList]; omega)
  have hgA : Blk (w.drew.setRow g cA) g 85 cA := setRow_heap w.drew g _ cA 85 (0, 0) hgd
  have hcl := fun ty => run_clear_two (P := Try.prog) (w.drew.setRow g cA) 79 ty 85 i0 _ _ _ Try.underlying79 hi0 hz0 rfl g (n1 * 2) 1 cA hgA (by omega) (by simp [Value.oneCell'])
  have hfin : (w.drew.setRow g cA).setRow g (cA.toList.take (n1 * 2) ++ [Value.string ⟨#[]⟩, Value.int .i64 0] ++ cA.toList.drop (n1 * 2 + 2)).toArray = w.drew.setRow g ((refCells l).take (k * 2) ++ (refCells l).drop (k1 * 2) ++ [Value.string ⟨#[]⟩, Value.int .i64 0]).toArray := by
    rw [setRow_setRow, hcA2, hcA3, List.append_nil]
  have HRN := Lib.hid hrun
  have hrc := hcl 0
  have HFI := Lib.hid hfin
  have hm3 : n1 + 1 ≤ 9223372036854775807 := hm
  have hkk : ¬ k = k1 := by omega
  have hkl : k ≤ k1 := by omega
  have hkn : k ≤ n1 + 1 := by omega
  have hkn1 : k1 ≤ n1 + 1 := by omega
  have hkn2 : ¬ n1 + 1 = k1 := by omega
  have hki : ¬ (n1 : Int) + 1 < (k1 : Int) := by omega
  have hkj : ¬ (n1 : Int) + 1 < (k : Int) := by omega
  clear hrun hcl hfin hgA hcA1 hcA2 hcA3 hcA hgd hg hone hm hk1 hk
  go_enter Try.func76, Try.ntmps76
  go_upto_region 5 with fail
  refine wp_region_held_tail 6 (fun w' => True) (by kernel_rfl) (by kernel_rfl) trivial (fun hHeld => ?qt0)
  case qt0 =>
    simp only [List.take_succ_cons, List.take_zero, List.drop_succ_cons, List.drop_zero]
    refine wpAnyH_take (i := 0) (v := (.slice (some ⟨g, 0, none⟩) (n1 + 1) (n1 + 1))) rfl (by kernel_rfl) (by kernel_rfl) (by kernel_rfl) (fun _ _ _ h => h) (Or.inl ⟨by rfl, ?yt_1⟩) (by assumption) ?qt_1
    case yt_1 => (intro w hSw; (try dsimp only at hSw); go_simp)
    case qt_1 =>
      (try simp only [Act.put]); (try simp only [List.setIfInBounds_toArray])
      refine wpAnyH_take (i := 1) (v := (.int .i64 k)) rfl (by kernel_rfl) (by kernel_rfl) (by kernel_rfl) (fun _ _ _ h => h) (Or.inl ⟨by rfl, ?yt_2⟩) (by assumption) ?qt_2
      case yt_2 => (intro w hSw; (try dsimp only at hSw); go_simp)
      case qt_2 =>
        (try simp only [Act.put]); (try simp only [List.setIfInBounds_toArray])
        refine wpAnyH_take (i := 2) (v := (.slice (some ⟨g, 0, none⟩) k (n1 + 1))) rfl (by kernel_rfl) (by kernel_rfl) (by kernel_rfl) (fun _ _ _ h => h) (Or.inl ⟨by rfl, ?yt_3⟩) (by assumption) ?qt_3
        case yt_3 => (intro w hSw; (try dsimp only at hSw); go_simp)
        case qt_3 =>
          (try simp only [Act.put]); (try simp only [List.setIfInBounds_toArray])
          refine wpAnyH_take (i := 3) (v := (.slice (some ⟨g, 0, none⟩) (n1 + 1) (n1 + 1))) rfl (by kernel_rfl) (by kernel_rfl) (by kernel_rfl) (fun _ _ _ h => h) (Or.inl ⟨by rfl, ?yt_4⟩) (by assumption) ?qt_4
          case yt_4 => (intro w hSw; (try dsimp only at hSw); go_simp)
          case qt_4 =>
            (try simp only [Act.put]); (try simp only [List.setIfInBounds_toArray])
            refine wpAnyH_take (i := 4) (v := (.int .i64 k1)) rfl (by kernel_rfl) (by kernel_rfl) (by kernel_rfl) (fun _ _ _ h => h) (Or.inl ⟨by rfl, ?yt_5⟩) (by assumption) ?qt_5
            case yt_5 => (intro w hSw; (try dsimp only at hSw); go_simp)
            case qt_5 =>
              (try simp only [Act.put]); (try simp only [List.setIfInBounds_toArray])
              refine wpAnyH_take (i := 5) (v := (.slice (some ⟨g, k1 * 2, none⟩) (n1 + 1 - k1) (n1 + 1 - k1))) rfl (by kernel_rfl) (by kernel_rfl) (by kernel_rfl) (fun _ _ _ h => h) (Or.inl ⟨by rfl, ?yt_6⟩) (by assumption) ?qt_6
              case yt_6 => (intro w hSw; (try dsimp only at hSw); go_simp)
              case qt_6 =>
                (try simp only [Act.put]); (try simp only [List.setIfInBounds_toArray])
                refine wpAnyH_done (by kernel_rfl) ?_ _
                show wpList _ _ _ _ _ _
                go_wp2_with (at_builtin; go_must (refine wpList_app_run _ rfl (.tmp 22) (.tmp 25) _ _ rfl _ _ rfl rfl _ _ HRN.out ?_))
                go_ret
                refine ⟨rfl, ?_⟩
                have hfo := HFI.out
                simp only [List.append_assoc, List.cons_append, List.nil_append] at hfo ⊢
                exact hfo
end Go.Proofs.Yteccblmdfjbljaa
namespace Go.Proofs.Yteccblmdfjbljaa
open Go Go.RowKit Go.Sort
set_option linter.unusedVariables false
/-- what holds besides one node -/
structure Beside (w : World) (B : Nat) (v : Value) (l : List (Nd × Leaf)) (i : Nat) : Prop where
  own : OwnN w B v l
  leaf : ∀ (j : Nat) q, j ≠ i → l[j]? = some q → OwnLeaf w B q.1 q.2
section
variable {w w' : World} {B : Nat} {v : Value} {l : List (Nd × Leaf)} {i : Nat} {p : Nd × Leaf} {gp : Nat}
theorem OwnM.touchP (h : OwnM w B v l) (hp : l[i]? = some p) (hgp : p.2.p.v.ownBlock = some gp) (hap : ∀ (j : Nat) q, j ≠ i → l[j]? = some q → NoClash p.2.p q.2.p) (hgr : w.grownBy w' (some gp)) :
    Beside w' B v l i ∧ w'.ownsRow B 3 1 (.slice p.2.k.A p.2.k.n p.2.k.c) p.2.k.n (intCells p.1.kids) ∧ w'.ownsRow B 85 2 (.slice p.2.r.A p.2.r.n p.2.r.c) p.2.r.n (refCells p.1.refs) := by
  have hlp := h.leaf p (List.mem_of_getElem? hp)
  have hgr' : w.grownBy w' (Value.slice p.2.p.A p.2.p.n p.2.p.c).ownBlock := by
    have e : (Value.slice p.2.p.A p.2.p.n p.2.p.c).ownBlock = some gp := hgp
    rw [e]; exact hgr
  refine ⟨⟨own_kept h.own hlp.p (by decide) hgr', fun j q hj hq => ?_⟩, own_kept hlp.k hlp.p (by decide) hgr', own_kept hlp.r hlp.p (by decide) hgr'⟩
  have hlq := h.leaf q (List.mem_of_getElem? hq)
  exact ⟨hlq.pn, hlq.kn, hlq.rn, World.ownsRow.kept hlq.p hgr (.inr (hap j q hj hq gp hgp)), own_kept hlq.k hlp.p (by decide) hgr', own_kept hlq.r hlp.p (by decide) hgr', hlq.sz⟩
theorem OwnM.touchR (h : OwnM w B v l) (hp : l[i]? = some p) (hgp : p.2.r.v.ownBlock = some gp) (hap : ∀ (j : Nat) q, j ≠ i → l[j]? = some q → NoClash p.2.r q.2.r) (hgr : w.grownBy w' (some gp)) :
    Beside w' B v l i ∧ w'.ownsRow B 83 2 (.slice p.2.p.A p.2.p.n p.2.p.c) p.2.p.n (propCells p.1.props) ∧ w'.ownsRow B 3 1 (.slice p.2.k.A p.2.k.n p.2.k.c) p.2.k.n (intCells p.1.kids) := by
  have hlp := h.leaf p (List.mem_of_getElem? hp)
  have hgr' : w.grownBy w' (Value.slice p.2.r.A p.2.r.n p.2.r.c).ownBlock := by
    have e : (Value.slice p.2.r.A p.2.r.n p.2.r.c).ownBlock = some gp := hgp
    rw [e]; exact hgr
  refine ⟨⟨own_kept h.own hlp.r (by decide) hgr', fun j q hj hq => ?_⟩, own_kept hlp.p hlp.r (by decide) hgr', own_kept hlp.k hlp.r (by decide) hgr'⟩
  have hlq := h.leaf q (List.mem_of_getElem? hq)
  exact ⟨hlq.pn, hlq.kn, hlq.rn, own_kept hlq.p hlp.r (by decide) hgr', own_kept hlq.k hlp.r (by decide) hgr', World.ownsRow.kept hlq.r hgr (.inr (hap j q hj hq gp hgp)), hlq.sz⟩
/-- a cell of that node is stored, and the rest of it holds -/
theorem Beside.store {n c g j : Nat} {q : Nd × Leaf} {u : Value} (h : Beside w B (.slice (some ⟨g, 0, none⟩) n c) l i) (hn : l.length = n) (hp : l[i]? = some p) (hj : j < 7) (hq : (ndCells p).set j u = ndCells q) (hl : OwnLeaf w B q.1 q.2) :
    OwnM (w.setCell ⟨g, i * 7 + j, none⟩ u) B (.slice (some ⟨g, 0, none⟩) n c) (l.set i q) := by
  subst hn
  have h1 : w.ownsRow B 81 7 (.slice (some ⟨g, 0, none⟩) l.length c) l.length (allCells l) := h.own
  obtain ⟨cs, hg, _, _⟩ := own_blk h1
  have h2 := (World.ownsRow.stored h1 (i * 7 + j) u).1
  rw [allCells_set hp hj hq] at h2
  refine ⟨?_, fun x hx => ?_⟩
  · unfold OwnN
    rw [List.length_set]
    exact h2
  · obtain ⟨k, hk⟩ := List.getElem?_of_mem hx
    rw [List.getElem?_set] at hk
    split at hk
    · split at hk
      · cases hk; exact hl.other hg (by decide) (by decide) (by decide) _ u
      · cases hk
    · exact (h.leaf k x (by omega) hk).other hg (by decide) (by decide) (by decide) _ u
/-- a node's cell -/
theorem OwnM.cellOf {n c g j : Nat} {u : Value} (h : OwnM w B (.slice (some ⟨g, 0, none⟩) n c) l) (hn : l.length = n) (hp : l[i]? = some p) (hj : j < 7) (hu : (ndCells p)[j]? = some u) : w.cell? ⟨g, i * 7 + j, none⟩ = some u ∧ w.frozen? ⟨g, i * 7 + j, none⟩ = false := by
  subst hn
  have h1 : w.ownsRow B 81 7 (.slice (some ⟨g, 0, none⟩) l.length c) l.length (allCells l) := h.own
  obtain ⟨cs, hg, _, _⟩ := own_blk h1
  have h2 := (World.ownsRow.cells (g := g) h1 rfl) (i * 7 + j) u (by rw [allCells, flatN_get ndCells_len l i p hp j hj]; exact hu)
  rw [Addr.add_lit, Nat.zero_add] at h2
  exact ⟨h2, Blk.frozen hg _⟩
end
theorem grown_row (w : World) (g : Nat) (cs : Array Value) : w.grownBy (w.drew.setRow g cs) (some g) := ⟨rfl, rfl, rfl, by simp [World.setRow], fun k _ hk => setRow_other w g k cs (fun e => hk (by simp [e]))⟩
/-- the place of a name that is there -/
theorem rank_found {ks : List ByteArray} {s : ByteArray} (hs : SortS ks) (h : foundS ks s = true) : ∃ k, ks[rankS ks s]? = some k ∧ k.toList = s.toList := by
  unfold foundS at h
  obtain ⟨k, hk, he⟩ := List.any_eq_true.1 h
  have he' : k.toList = s.toList := by simpa using he
  obtain ⟨i, hi⟩ := List.getElem?_of_mem hk
  have hl : i < ks.length := (List.getElem?_eq_some_iff.1 hi).1
  have H : HalfS ks s i i := ⟨Nat.le_refl _, by omega, fun j x hj hx => by
    have h1 := hs j i x k hj hx hi
    unfold ltS at h1 ⊢
    rwa [he'] at h1, fun j x hj hx => by
    rcases Nat.eq_or_lt_of_le hj with rfl | h2
    · rw [hi] at hx; cases hx
      unfold ltS
      rw [he']
      exact less_irrefl _
    · have h1 := hs i j k x h2 hi hx
      unfold ltS at h1 ⊢
      rw [he'] at h1
      cases h3 : Op.bytesLess x.toList s.toList with
      | false => rfl
      | true =>
        have := less_trans h1 h3
        rw [less_irrefl] at this; cases this⟩
  exact ⟨k, by rw [H.rank]; exact hi, he'⟩
end Go.Proofs.Yteccblmdfjbljaa
namespace Go.Proofs.Yteccblmdfjbljaa
open Go Go.RowKit Go.Sort
set_option linter.unusedVariables false
attribute [local go_sem ↓] Go.wp_at_zero Go.wp_at_succ
theorem set_same {α : Type} {l : List α} {i : Nat} {a : α} (h : l[i]? = some a) : l.set i a = l := by
  apply List.ext_getElem?
  intro j
  rw [List.getElem?_set]
  split
  · next e => subst e; rw [if_pos (List.getElem?_eq_some_iff.1 h).1, h]
  · rfl
theorem own_tight {w : World} {B size n : Nat} {e : TypeId} {A : Option Addr} {xs : List Value} (h : w.ownsRow B e size (.slice A n n) n xs) (hn : 0 < n) : ∃ g, A = some ⟨g, 0, none⟩ ∧ Blk w g e xs.toArray ∧ B ≤ g ∧ n ≤ maxLen := by
  have hl := h.1
  rcases h.2 with ⟨hv, h0⟩ | ⟨g, cap, cur, hv, hb, hg, h1, h2, h3, h4⟩
  · omega
  · injection hv with hA _ hc
    subst hA hc
    have hx : cur = xs.toArray := by
      rw [List.take_of_length_le (by rw [Array.length_toList]; omega)] at h4
      rw [← h4]
    subst hx
    exact ⟨g, rfl, hg, hb, h2⟩
/-- the node without what has that name -/
def dropN (nd : Nd) (name : ByteArray) : Nd := if foundS (nd.props.map (·.1)) name = true then { nd with props := nd.props.eraseIdx (rankS (nd.props.map (·.1)) name) } else nd
set_option maxRecDepth 20000 in
set_option maxHeartbeats 1600000 in
theorem drop_del (w : World) (g n1 k : Nat) (l : List (ByteArray × ByteArray)) (hg : Blk w g 83 (propCells l).toArray) (hl : l.length = n1 + 1) (hk : k ≤ n1) (hm : n1 + 1 ≤ maxLen) :
    Calls Try.prog 71 #[.slice (some ⟨g, 0, none⟩) (n1 + 1) (n1 + 1), .int .i64 k, .int .i64 ((k : Int) + 1)] w fun e w' => e = .returned (.slice (some ⟨g, 0, none⟩) n1 (n1 + 1)) ∧ w' = w.drew.setRow g (propCells (l.eraseIdx k) ++ [Value.string ⟨#[]⟩, Value.string ⟨#[]⟩]).toArray := by
  rcases Nat.lt_or_ge k n1 with h | h
  · exact delProp_in w g n1 k (k + 1) l hg hl rfl h hm
  · obtain rfl : k = n1 := by omega
    exact delProp_last w g k k (k + 1) l hg hl rfl rfl hm
set_option maxRecDepth 20000 in
set_option maxHeartbeats 3200000 in
theorem drop_change (w : World) (n : Nat) (nd : Nd) (bn : Nat) (name : ByteArray) (hb : Blk w bn 9 #[.string name]) (hs : SortS (nd.props.map (·.1))) (hfit : Fits 1 nd) :
    Change w n 70 #[.pointer (some ⟨bn, 0, none⟩)] nd (dropN nd name) := by
  intro X g i l p hO hD hln hp hp1 hX
  show Calls _ _ #[.pointer (some ⟨g, i * 7, none⟩), .pointer (some ⟨bn, 0, none⟩)] X _
  obtain ⟨nd0, ⟨⟨A, m, cm⟩, K, R⟩⟩ := p
  obtain rfl : nd0 = nd := hp1
  have hmem := List.mem_of_getElem? hp
  have hbn := hb.after hX
  have hleaf := hO.leaf _ hmem
  have htg := hD.tight _ hmem
  obtain rfl : cm = m := htg.pc
  obtain ⟨c4, f4⟩ := hO.cellOf hln hp (j := 4) (by decide) rfl
  have hrow := (own_row hleaf.p).mono (Nat.zero_le _) (Nat.le_refl X.heap.size)
  dsimp only at hleaf htg c4 hrow
  have hnl : cm = nd0.props.length := hleaf.pn
  have hpf := hfit.p
  have HP := Lib.hid (pAt_any X X.heap.size g (i * 7) A cm cm nd0.props name c4 hrow (Nat.le_refl _) hs (by omega))
  have c0 := (hbn.cell 0).trans (show _ = some (.string name) from rfl)
  have hset : (l.map (·.1)).set i nd0 = l.map (·.1) := set_same (by rw [List.getElem?_map, hp]; rfl)
  have hgX : g < X.heap.size := by
    have h1 := hO.own
    unfold OwnN at h1
    rw [hln] at h1
    obtain ⟨cs, hg, _, _⟩ := own_blk h1
    exact hg.lt
  have HST := Lib.hid hset
  have HO := Lib.hid hO
  have HX := Lib.hid hX
  have HPP := Lib.hid hp
  have HDD := Lib.hid hD
  have HLF := Lib.hid hleaf
  have HSO := Lib.hid hs
  cases hfd : foundS (nd0.props.map (·.1)) name with
  | false =>
    rw [hfd] at HP
    have hN : dropN nd0 name = nd0 := by unfold dropN; rw [hfd]; rfl
    rw [hN]
    clear hO hX hp hD hleaf hs hfd hN htg hrow hmem hset hb hbn
    generalize rankS (nd0.props.map (·.1)) name = k at HP
    go_enter Try.func70, Try.ntmps70
    go_wp2_with (go_at_call 68; go_must (refine HP.out.mono ?_; rintro e w2 ⟨rfl, hb2⟩; have HB2 := Lib.hid hb2; clear hb2))
    refine bodyPost_end (results_none (by kernel_rfl) _ _ _) rfl ?_
    exact ⟨rfl, l, HO.out.after HB2.out, HST.out.symm, HX.out.trans (HB2.out.mono HX.out.size), fun gb cs h => h.after HB2.out⟩
  | true =>
    rw [hfd] at HP
    obtain ⟨kx, hkx, _⟩ := rank_found hs hfd
    have hN : dropN nd0 name = { nd0 with props := nd0.props.eraseIdx (rankS (nd0.props.map (·.1)) name) } := by unfold dropN; rw [hfd]; rfl
    rw [hN]
    have hkl : rankS (nd0.props.map (·.1)) name < nd0.props.length := by
      have := (List.getElem?_eq_some_iff.1 hkx).1
      rwa [List.length_map] at this
    generalize rankS (nd0.props.map (·.1)) name = k at HP hkl ⊢
    obtain ⟨n1, hn1⟩ : ∃ n1, cm = n1 + 1 := ⟨cm - 1, by omega⟩
    subst hn1
    have hlp : X.ownsRow w.heap.size 83 2 (.slice A (n1 + 1) (n1 + 1)) (n1 + 1) (propCells nd0.props) := hleaf.p
    obtain ⟨gp, hA, hgp, hgB, hcm⟩ := own_tight hlp (by omega)
    subst hA
    have hw1 : IntKind.i64.wrap ((k : Int) + 1) = (k : Int) + 1 := IntWalk.i64_in _ ⟨by omega, by omega⟩
    have HDel := Lib.hid fun (Y : World) (hY : Below X.heap.size X Y) => drop_del Y gp n1 k nd0.props (hgp.after hY) (by omega) (by omega) hcm
    obtain ⟨csN, hgN⟩ : ∃ csN, Blk X g 81 csN := by
      have h1 := hO.own
      unfold OwnN at h1
      rw [hln] at h1
      obtain ⟨cs, hg, _, _⟩ := own_blk h1
      exact ⟨cs, hg⟩
    have hgg : g ≠ gp := hgN.ne_ hgp (by decide)
    have hwg : w.heap.size ≤ g := by
      have h1 := hO.own
      unfold OwnN at h1
      rw [hln] at h1
      obtain ⟨cs, hg, h2, _⟩ := own_blk h1
      exact h2
    have HSc := Lib.hid fun (Y W : World) (cs : Array Value) (hY : Below X.heap.size X Y) (hW : W = Y.drew.setRow gp cs) => show W.cell? ⟨g, i * 7 + 4, none⟩ = some (.slice (some ⟨gp, 0, none⟩) (n1 + 1) (n1 + 1)) ∧ W.frozen? ⟨g, i * 7 + 4, none⟩ = false from by
      have hb1 : W.heap[g]? = Y.heap[g]? := by rw [hW]; exact setRow_other Y.drew gp g cs hgg
      have hb2 := hY.block g hgX
      exact ⟨(World.cell?_of_block (w := X) (a := ⟨g, i * 7 + 4, none⟩) (hb1.trans hb2)).trans c4, (World.frozen?_of_block (w := X) (a := ⟨g, i * 7 + 4, none⟩) (hb1.trans hb2)).trans f4⟩
    have hel : (nd0.props.eraseIdx k).length = n1 := by rw [List.length_eraseIdx_of_lt hkl]; omega
    have HGP := Lib.hid hgp
    have HGN := Lib.hid hgN
    have HEL := Lib.hid hel
    have HNL := Lib.hid hnl
    have hk63 : n1 + 1 ≤ 9223372036854775807 := hcm
    clear hO hX hp hD hleaf hs hfd hN htg hrow hmem hset hb hbn hlp hgp hgN hkx hfit hel hnl hkl hpf
    go_enter Try.func70, Try.ntmps70
    go_wp2_with (first | (go_at_call 68; go_must (refine HP.out.mono ?_; rintro e w2 ⟨rfl, hb2⟩; have HB2 := Lib.hid hb2; have c42 := (hb2.cell (p := ⟨g, i * 7 + 4, none⟩) hgX).trans c4; clear hb2)) | (go_at_call 71; go_must (refine (HDel.out _ HB2.out).mono ?_; rintro e w3 ⟨rfl, hw3⟩; have HW3 := Lib.hid hw3; obtain ⟨c43, f43⟩ := HSc.out _ _ _ HB2.out hw3; clear hw3)))
    refine bodyPost_end (results_none (by kernel_rfl) _ _ _) rfl ?_
    have hel := HEL.out
    have hnl := HNL.out
    have hO2 := HO.out.after HB2.out
    have hw3 := HW3.out
    have hgr : w2.grownBy w3 (some gp) := by rw [hw3]; exact grown_row w2 gp _
    obtain ⟨hbes, hk1, hk2⟩ := hO2.touchP HPP.out (gp := gp) rfl (fun j q hj hq => (HDD.out.apart i j _ q (fun e => hj e.symm) HPP.out hq).1) hgr
    have hgp3 : Blk w3 gp 83 (propCells (nd0.props.eraseIdx k) ++ [Value.string ⟨#[]⟩, Value.string ⟨#[]⟩]).toArray := by rw [hw3]; exact setRow_heap w2.drew gp _ _ 83 (0, 0) (by have q := HGP.out.after HB2.out; exact q)
    have hcl : (propCells (nd0.props.eraseIdx k)).length = n1 * 2 := by rw [propCells_length, hel]
    have hnr : w3.ownsRow w.heap.size 83 2 (.slice (some ⟨gp, 0, none⟩) n1 (n1 + 1)) n1 (propCells (nd0.props.eraseIdx k)) :=
      ⟨hcl, .inr ⟨gp, n1 + 1, _, rfl, hgB, hgp3, by omega, hcm, by simp only [List.size_toArray, List.length_append, hcl, List.length_cons, List.length_nil]; omega, by simp only [List.toList_toArray]; exact List.take_left' hcl⟩⟩
    have hsz : SzN { nd0 with props := nd0.props.eraseIdx k } := ⟨HLF.out.sz.con, HLF.out.sz.role, fun x hx => HLF.out.sz.props x (List.mem_of_mem_eraseIdx hx), HLF.out.sz.refs⟩
    have hnl2 : OwnLeaf w3 w.heap.size { nd0 with props := nd0.props.eraseIdx k } ⟨⟨some ⟨gp, 0, none⟩, n1, n1 + 1⟩, K, R⟩ := ⟨by rw [hel], HLF.out.kn, HLF.out.rn, hnr, hk1, hk2, hsz⟩
    refine ⟨rfl, l.set i ({ nd0 with props := nd0.props.eraseIdx k }, ⟨⟨some ⟨gp, 0, none⟩, n1, n1 + 1⟩, K, R⟩), hbes.store hln HPP.out (by decide) rfl hnl2, by rw [List.map_set], ?_, fun gb cs h => ?_⟩
    · have h1 : Below w.heap.size w w3 := by
        rw [hw3]
        exact below_setRow ((HX.out.trans (HB2.out.mono HX.out.size)).trans ((below_drew1 w2).mono (HX.out.trans (HB2.out.mono HX.out.size)).size)) hgB _
      exact h1.setCell (p := ⟨g, i * 7 + 4, none⟩) hwg _
    · have h2 := h.after HB2.out
      have h3 : gb ≠ gp := h2.ne_ (HGP.out.after HB2.out) (by decide)
      have h4 : gb ≠ g := h2.ne_ (HGN.out.after HB2.out) (by decide)
      exact (h2.grown hgr (by simpa using h3)).far h4 _
/-- the node without what has that name -/
def looseN (nd : Nd) (name : ByteArray) : Nd := if foundS (nd.refs.map (·.1)) name = true then { nd with refs := nd.refs.eraseIdx (rankS (nd.refs.map (·.1)) name) } else nd
set_option maxRecDepth 20000 in
set_option maxHeartbeats 1600000 in
theorem loose_del (w : World) (g n1 k : Nat) (l : List (ByteArray × Int)) (hg : Blk w g 85 (refCells l).toArray) (hl : l.length = n1 + 1) (hk : k ≤ n1) (hm : n1 + 1 ≤ maxLen) :
    Calls Try.prog 76 #[.slice (some ⟨g, 0, none⟩) (n1 + 1) (n1 + 1), .int .i64 k, .int .i64 ((k : Int) + 1)] w fun e w' => e = .returned (.slice (some ⟨g, 0, none⟩) n1 (n1 + 1)) ∧ w' = w.drew.setRow g (refCells (l.eraseIdx k) ++ [Value.string ⟨#[]⟩, Value.int .i64 0]).toArray := by
  rcases Nat.lt_or_ge k n1 with h | h
  · exact delRef_in w g n1 k (k + 1) l hg hl rfl h hm
  · obtain rfl : k = n1 := by omega
    exact delRef_last w g k k (k + 1) l hg hl rfl rfl hm
set_option maxRecDepth 20000 in
set_option maxHeartbeats 3200000 in
theorem loose_change (w : World) (n : Nat) (nd : Nd) (bn : Nat) (name : ByteArray) (hb : Blk w bn 9 #[.string name]) (hs : SortS (nd.refs.map (·.1))) (hfit : Fits 1 nd) :
    Change w n 75 #[.pointer (some ⟨bn, 0, none⟩)] nd (looseN nd name) := by
  intro X g i l p hO hD hln hp hp1 hX
  show Calls _ _ #[.pointer (some ⟨g, i * 7, none⟩), .pointer (some ⟨bn, 0, none⟩)] X _
  obtain ⟨nd0, ⟨K, R, ⟨A, m, cm⟩⟩⟩ := p
  obtain rfl : nd0 = nd := hp1
  have hmem := List.mem_of_getElem? hp
  have hbn := hb.after hX
  have hleaf := hO.leaf _ hmem
  have htg := hD.tight _ hmem
  obtain rfl : cm = m := htg.rc
  obtain ⟨c4, f4⟩ := hO.cellOf hln hp (j := 6) (by decide) rfl
  have hrow := (own_row hleaf.r).mono (Nat.zero_le _) (Nat.le_refl X.heap.size)
  dsimp only at hleaf htg c4 hrow
  have hnl : cm = nd0.refs.length := hleaf.rn
  have hpf := hfit.r
  have HP := Lib.hid (rAt_any X X.heap.size g (i * 7) A cm cm nd0.refs name c4 hrow (Nat.le_refl _) hs (by omega))
  have c0 := (hbn.cell 0).trans (show _ = some (.string name) from rfl)
  have hset : (l.map (·.1)).set i nd0 = l.map (·.1) := set_same (by rw [List.getElem?_map, hp]; rfl)
  have hgX : g < X.heap.size := by
    have h1 := hO.own
    unfold OwnN at h1
    rw [hln] at h1
    obtain ⟨cs, hg, _, _⟩ := own_blk h1
    exact hg.lt
  have HST := Lib.hid hset
  have HO := Lib.hid hO
  have HX := Lib.hid hX
  have HPP := Lib.hid hp
  have HDD := Lib.hid hD
  have HLF := Lib.hid hleaf
  have HSO := Lib.hid hs
  cases hfd : foundS (nd0.refs.map (·.1)) name with
  | false =>
    rw [hfd] at HP
    have hN : looseN nd0 name = nd0 := by unfold looseN; rw [hfd]; rfl
    rw [hN]
    clear hO hX hp hD hleaf hs hfd hN htg hrow hmem hset hb hbn
    generalize rankS (nd0.refs.map (·.1)) name = k at HP
    go_enter Try.func75, Try.ntmps75
    go_wp2_with (go_at_call 73; go_must (refine HP.out.mono ?_; rintro e w2 ⟨rfl, hb2⟩; have HB2 := Lib.hid hb2; clear hb2))
    refine bodyPost_end (results_none (by kernel_rfl) _ _ _) rfl ?_
    exact ⟨rfl, l, HO.out.after HB2.out, HST.out.symm, HX.out.trans (HB2.out.mono HX.out.size), fun gb cs h => h.after HB2.out⟩
  | true =>
    rw [hfd] at HP
    obtain ⟨kx, hkx, _⟩ := rank_found hs hfd
    have hN : looseN nd0 name = { nd0 with refs := nd0.refs.eraseIdx (rankS (nd0.refs.map (·.1)) name) } := by unfold looseN; rw [hfd]; rfl
    rw [hN]
    have hkl : rankS (nd0.refs.map (·.1)) name < nd0.refs.length := by
      have := (List.getElem?_eq_some_iff.1 hkx).1
      rwa [List.length_map] at this
    generalize rankS (nd0.refs.map (·.1)) name = k at HP hkl ⊢
    obtain ⟨n1, hn1⟩ : ∃ n1, cm = n1 + 1 := ⟨cm - 1, by omega⟩
    subst hn1
    have hlp : X.ownsRow w.heap.size 85 2 (.slice A (n1 + 1) (n1 + 1)) (n1 + 1) (refCells nd0.refs) := hleaf.r
    obtain ⟨gp, hA, hgp, hgB, hcm⟩ := own_tight hlp (by omega)
    subst hA
    have hw1 : IntKind.i64.wrap ((k : Int) + 1) = (k : Int) + 1 := IntWalk.i64_in _ ⟨by omega, by omega⟩
    have HDel := Lib.hid fun (Y : World) (hY : Below X.heap.size X Y) => loose_del Y gp n1 k nd0.refs (hgp.after hY) (by omega) (by omega) hcm
    obtain ⟨csN, hgN⟩ : ∃ csN, Blk X g 81 csN := by
      have h1 := hO.own
      unfold OwnN at h1
      rw [hln] at h1
      obtain ⟨cs, hg, _, _⟩ := own_blk h1
      exact ⟨cs, hg⟩
    have hgg : g ≠ gp := hgN.ne_ hgp (by decide)
    have hwg : w.heap.size ≤ g := by
      have h1 := hO.own
      unfold OwnN at h1
      rw [hln] at h1
      obtain ⟨cs, hg, h2, _⟩ := own_blk h1
      exact h2
    have HSc := Lib.hid fun (Y W : World) (cs : Array Value) (hY : Below X.heap.size X Y) (hW : W = Y.drew.setRow gp cs) => show W.cell? ⟨g, i * 7 + 6, none⟩ = some (.slice (some ⟨gp, 0, none⟩) (n1 + 1) (n1 + 1)) ∧ W.frozen? ⟨g, i * 7 + 6, none⟩ = false from by
      have hb1 : W.heap[g]? = Y.heap[g]? := by rw [hW]; exact setRow_other Y.drew gp g cs hgg
      have hb2 := hY.block g hgX
      exact ⟨(World.cell?_of_block (w := X) (a := ⟨g, i * 7 + 6, none⟩) (hb1.trans hb2)).trans c4, (World.frozen?_of_block (w := X) (a := ⟨g, i * 7 + 6, none⟩) (hb1.trans hb2)).trans f4⟩
    have hel : (nd0.refs.eraseIdx k).length = n1 := by rw [List.length_eraseIdx_of_lt hkl]; omega
    have HGP := Lib.hid hgp
    have HGN := Lib.hid hgN
    have HEL := Lib.hid hel
    have HNL := Lib.hid hnl
    have hk63 : n1 + 1 ≤ 9223372036854775807 := hcm
    clear hO hX hp hD hleaf hs hfd hN htg hrow hmem hset hb hbn hlp hgp hgN hkx hfit hel hnl hkl hpf
    go_enter Try.func75, Try.ntmps75
    go_wp2_with (first | (go_at_call 73; go_must (refine HP.out.mono ?_; rintro e w2 ⟨rfl, hb2⟩; have HB2 := Lib.hid hb2; have c42 := (hb2.cell (p := ⟨g, i * 7 + 6, none⟩) hgX).trans c4; clear hb2)) | (go_at_call 76; go_must (refine (HDel.out _ HB2.out).mono ?_; rintro e w3 ⟨rfl, hw3⟩; have HW3 := Lib.hid hw3; obtain ⟨c43, f43⟩ := HSc.out _ _ _ HB2.out hw3; clear hw3)))
    refine bodyPost_end (results_none (by kernel_rfl) _ _ _) rfl ?_
    have hel := HEL.out
    have hnl := HNL.out
    have hO2 := HO.out.after HB2.out
    have hw3 := HW3.out
    have hgr : w2.grownBy w3 (some gp) := by rw [hw3]; exact grown_row w2 gp _
    obtain ⟨hbes, hk1, hk2⟩ := hO2.touchR HPP.out (gp := gp) rfl (fun j q hj hq => (HDD.out.apart i j _ q (fun e => hj e.symm) HPP.out hq).2) hgr
    have hgp3 : Blk w3 gp 85 (refCells (nd0.refs.eraseIdx k) ++ [Value.string ⟨#[]⟩, Value.int .i64 0]).toArray := by rw [hw3]; exact setRow_heap w2.drew gp _ _ 85 (0, 0) (by have q := HGP.out.after HB2.out; exact q)
    have hcl : (refCells (nd0.refs.eraseIdx k)).length = n1 * 2 := by rw [refCells_length, hel]
    have hnr : w3.ownsRow w.heap.size 85 2 (.slice (some ⟨gp, 0, none⟩) n1 (n1 + 1)) n1 (refCells (nd0.refs.eraseIdx k)) :=
      ⟨hcl, .inr ⟨gp, n1 + 1, _, rfl, hgB, hgp3, by omega, hcm, by simp only [List.size_toArray, List.length_append, hcl, List.length_cons, List.length_nil]; omega, by simp only [List.toList_toArray]; exact List.take_left' hcl⟩⟩
    have hsz : SzN { nd0 with refs := nd0.refs.eraseIdx k } := ⟨HLF.out.sz.con, HLF.out.sz.role, HLF.out.sz.props, fun x hx => HLF.out.sz.refs x (List.mem_of_mem_eraseIdx hx)⟩
    have hnl2 : OwnLeaf w3 w.heap.size { nd0 with refs := nd0.refs.eraseIdx k } ⟨K, R, ⟨some ⟨gp, 0, none⟩, n1, n1 + 1⟩⟩ := ⟨HLF.out.pn, HLF.out.kn, by rw [hel], hk1, hk2, hnr, hsz⟩
    refine ⟨rfl, l.set i ({ nd0 with refs := nd0.refs.eraseIdx k }, ⟨K, R, ⟨some ⟨gp, 0, none⟩, n1, n1 + 1⟩⟩), hbes.store hln HPP.out (by decide) rfl hnl2, by rw [List.map_set], ?_, fun gb cs h => ?_⟩
    · have h1 : Below w.heap.size w w3 := by
        rw [hw3]
        exact below_setRow ((HX.out.trans (HB2.out.mono HX.out.size)).trans ((below_drew1 w2).mono (HX.out.trans (HB2.out.mono HX.out.size)).size)) hgB _
      exact h1.setCell (p := ⟨g, i * 7 + 6, none⟩) hwg _
    · have h2 := h.after HB2.out
      have h3 : gb ≠ gp := h2.ne_ (HGP.out.after HB2.out) (by decide)
      have h4 : gb ≠ g := h2.ne_ (HGN.out.after HB2.out) (by decide)
      exact (h2.grown hgr (by simpa using h3)).far h4 _
end Go.Proofs.Yteccblmdfjbljaa

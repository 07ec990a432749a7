/-
  WALK of the law LexStops.
-/
import Derived.Test.YtinhlemebnlijaaDoorY14
import Derived.Test.YtinhlemebnlijaaDoorY15
namespace Go.Proofs.YtinhlemebnlijaaDoor
open Go Go.RowKit
set_option linter.unusedVariables false
theorem cat_size (a b : ByteArray) : (a ++ b).size = a.size + b.size := by rw [← toList_eq, cat_list, List.length_append, toList_eq, toList_eq]
/-- none of the first k ends makes the text right -/
structure NoEnd (S : List UInt8) (n k : Nat) : Prop where
  out : ∀ j x, j < k → ends6[j]? = some x → (scanR (S.take n ++ x)).2.2 ≠ 0
theorem NoEnd.start (S : List UInt8) (n : Nat) : NoEnd S n 0 := ⟨fun j x h => absurd h (by omega)⟩
theorem NoEnd.next {S : List UInt8} {n k : Nat} {x : List UInt8} (h : NoEnd S n k) (hx : ends6[k]? = some x) (hc : (scanR (S.take n ++ x)).2.2 ≠ 0) : NoEnd S n (k + 1) := by
  refine ⟨fun j y hj hy => ?_⟩
  by_cases e : j = k
  · subst e; rw [hx] at hy; obtain rfl := Option.some.inj hy; exact hc
  · exact h.out j y (by omega) hy
theorem NoEnd.over {S : List UInt8} {n : Nat} (h : NoEnd S n 6) (he : ∃ x ∈ ends6, ∃ m, scanR (S.take n ++ x) = (m, 0, 0)) : False := by
  obtain ⟨x, hx, m, hm⟩ := he
  obtain ⟨j, hj, e⟩ := List.getElem_of_mem hx
  exact h.out j x hj (by rw [List.getElem?_eq_getElem hj, e]) (by rw [hm])
/-- Scan's answer, its list unnamed -/
def ScanC (w : World) (n c : Int) (e : Ending) (w' : World) : Prop := ∃ A j k, e = .returned (.tuple #[.slice A j k, .int .i64 n, .int .i64 c]) ∧ Below w.heap.size w w'
theorem scan_c {s : ByteArray} {l : List Tok} {n : Nat} {c : Int} {w : World} (hs : s.size ≤ 140737488355328) (hE : ScanEnv w) (h : scanR s.data.toList = (l, n, c)) : Calls Tryd.prog 9 #[.string s] w (ScanC w n c) :=
  (scan_is hs hE h).mono fun e w' ⟨A, k, he, _, hb⟩ => ⟨A, _, k, he, hb⟩
def endV : Array Value := #[.string ⟨#[]⟩, .string ⟨#[34]⟩, .string ⟨#[110, 34]⟩, .string ⟨#[102, 102, 34]⟩, .string ⟨#[102, 34]⟩, .string ⟨#[61]⟩]
theorem endV_at {k : Nat} (hk : k < 6) : ∃ x : ByteArray, endV[k]? = some (.string x) ∧ ends6[k]? = some x.data.toList ∧ x.size ≤ 3 := by
  match k, hk with
  | 0, _ => exact ⟨_, rfl, rfl, by decide⟩
  | 1, _ => exact ⟨_, rfl, rfl, by decide⟩
  | 2, _ => exact ⟨_, rfl, rfl, by decide⟩
  | 3, _ => exact ⟨_, rfl, rfl, by decide⟩
  | 4, _ => exact ⟨_, rfl, rfl, by decide⟩
  | 5, _ => exact ⟨_, rfl, rfl, by decide⟩
set_option maxHeartbeats 3200000 in
theorem stops_any (s : ByteArray) (w : World) (hs : s.size ≤ 140737488355328) (hE : ScanEnv w) : Calls Tryd.prog 6 #[.string s] w (Tells1 w true) := by
  have HA : Hid (Calls Tryd.prog 14 #[] w (Tells1 w true)) := Lib.hid (awake_any w hE)
  have HSC : Hid (∀ t l n c Y, After w Y → t.size ≤ 140737488355328 → scanR t.data.toList = (l, n, c) → Calls Tryd.prog 9 #[.string t] Y (ScanC Y (n : Nat) c)) := Lib.hid fun t l n c Y h ht hr => scan_c ht (hE.below h.below) hr
  have hsz := toList_eq s
  have hcs := scanR_cases s.data.toList
  clear hE
  rcases hcs with ⟨h4, hr⟩ | ⟨h4, l, _, hr⟩ | ⟨h4, n, _, hr⟩
  · have HS : Hid (∀ Y, After w Y → Calls Tryd.prog 9 #[.string s] Y (ScanC Y 0 3)) := Lib.hid fun Y h => HSC.out s _ _ _ Y h hs hr
    rw [hsz] at h4
    have d4 : decide ((4096 : Int) < (s.size : Int)) = true := by simp; omega
    clear hr hsz
    go_enter Tryd.func6, Tryd.ntmps6
    go_wp2_with fail
    refine HA.out.mono ?_
    rintro e w1 ⟨rfl, hb1⟩
    have A1 := (After.refl w).next hb1
    clear hb1
    go_wp2_with fail
    refine (HS.out _ A1).mono ?_
    rintro e w2 ⟨Av, j, k, rfl, hb2⟩
    have A2 := A1.next hb2
    clear hb2
    go_wp2_with fail
    go_ret
    exact tells1 rfl A2.below
  · have HS : Hid (∀ Y, After w Y → Calls Tryd.prog 9 #[.string s] Y (ScanC Y 0 0)) := Lib.hid fun Y h => HSC.out s _ _ _ Y h hs hr
    clear hr hsz
    go_enter Tryd.func6, Tryd.ntmps6
    go_wp2_with fail
    refine HA.out.mono ?_
    rintro e w1 ⟨rfl, hb1⟩
    have A1 := (After.refl w).next hb1
    clear hb1
    go_wp2_with fail
    refine (HS.out _ A1).mono ?_
    rintro e w2 ⟨Av, j, k, rfl, hb2⟩
    have A2 := A1.next hb2
    clear hb2
    go_wp2_with fail
    go_ret
    exact tells1 rfl A2.below
  · have HS : Hid (∀ Y, After w Y → Calls Tryd.prog 9 #[.string s] Y (ScanC Y n 70)) := Lib.hid fun Y h => HSC.out s _ _ _ Y h hs hr
    have hst := scanR_stops hr
    rw [hsz] at hst
    obtain ⟨_, hns, hcut, hends⟩ := hst
    rw [hsz] at h4
    have hcl : (s.extract 0 n).data.toList = s.data.toList.take n := by rw [Lib.extract_data]; simp
    have hcz : (s.extract 0 n).size = n := by rw [← toList_eq, hcl, List.length_take, hsz]; omega
    obtain ⟨C, hC⟩ : ∃ C, s.extract 0 n = C := ⟨_, rfl⟩
    rw [hC] at hcl hcz
    have HEX : Hid (∀ (x : ByteArray) Y, After w Y → x.size ≤ 3 → Calls Tryd.prog 9 #[.string (C ++ x)] Y (ScanC Y ((scanR (s.data.toList.take n ++ x.data.toList)).2.1 : Nat) (scanR (s.data.toList.take n ++ x.data.toList)).2.2)) := Lib.hid fun x Y h hx => by
      refine HSC.out (C ++ x) (scanR (s.data.toList.take n ++ x.data.toList)).1 _ _ Y h (by rw [cat_size]; omega) ?_
      rw [cat_list, hcl]
    have HCUT : Hid (∃ (n2 : Nat) (c2 : Int), (∀ Y, After w Y → Calls Tryd.prog 9 #[.string C] Y (ScanC Y n2 c2)) ∧ (c2 = 0 ∨ (c2 = 70 ∧ n = n2))) := Lib.hid (by
      rcases hcut with ⟨m, hm⟩ | hm
      · exact ⟨0, 0, fun Y h => HSC.out C m 0 0 Y h (by omega) (by rw [hcl]; exact hm), .inl rfl⟩
      · exact ⟨n, 70, fun Y h => HSC.out C [] n 70 Y h (by omega) (by rw [hcl]; exact hm), .inr ⟨rfl, rfl⟩⟩)
    have HENDS := Lib.hid hends
    have hn0 : (0 : Int) ≤ (n : Int) := by omega
    have hn1 : (n : Int) ≤ (s.size : Int) := by omega
    have hn4 : n ≤ 4096 := by omega
    clear hr hcut hends HSC
    go_enter Tryd.func6, Tryd.ntmps6
    go_wp2_with fail
    refine HA.out.mono ?_
    rintro e w1 ⟨rfl, hb1⟩
    have A1 := (After.refl w).next hb1
    clear hb1
    go_wp2_with fail
    refine (HS.out _ A1).mono ?_
    rintro e w2 ⟨Av, j, k, rfl, hb2⟩
    have A2 := A1.next hb2
    clear hb2
    go_wp2_with fail
    obtain ⟨n2, c2, hcu, hc2⟩ := HCUT.out
    refine (hcu _ A2).mono ?_
    rintro e w3 ⟨Aw, j2, k2, rfl, hb3⟩
    have A3 := A2.next hb3
    clear hb3 hcu HCUT
    rcases hc2 with rfl | ⟨rfl, rfl⟩
    all_goals
      by_cases h93 : (4093 : Int) < (n : Int)
      · go_wp2_with fail
        go_ret
        exact tells1 rfl A3.below
      · have HE2 := Lib.hid (HENDS.out (by omega))
        clear HENDS
        go_wp2_with fail
        go_loopw [12, 13, 14, 15, 73] (fun _ _ _ _ i wr => ∃ k : Nat, k ≤ 6 ∧ i = .int .i64 k ∧ NoEnd s.data.toList n k ∧ After w wr) (fun _ _ _ _ i _ => 6 - (intOf i).toNat)
        case atStart => exact ⟨0, by omega, rfl, NoEnd.start _ _, A3.next ((Below.refl _ _).alloc (Nat.le_refl _) _)⟩
        case round =>
          obtain ⟨k, hk, rfl, HN, A4⟩ := hrel
          by_cases hlt : k < 6
          · obtain ⟨x, hc, hx6, hx3⟩ := endV_at hlt
            have HX := Lib.hid (HEX.out x wr A4 hx3)
            have HNX : Hid (_ → NoEnd s.data.toList n (k + 1)) := Lib.hid (fun h => HN.next hx6 h)
            obtain ⟨m, hm⟩ : ∃ m, (scanR (s.data.toList.take n ++ x.data.toList)).2.1 = m := ⟨_, rfl⟩
            obtain ⟨c, hcc⟩ : ∃ c, (scanR (s.data.toList.take n ++ x.data.toList)).2.2 = c := ⟨_, rfl⟩
            rw [hm, hcc] at HX
            rw [hcc] at HNX
            clear hm hcc hx6 HN
            by_cases h0 : c = 0
            · have d0 : (c == 0) = true := by rw [beq_iff_eq]; exact h0
              clear h0
              go_wp2_with (first | (refine wpList_index_strs rfl _ _ _ rfl 6 endV k x rfl rfl Tryd.underlying40 hlt hc ?_) | (go_at_call 9; refine HX.out.mono ?_; rintro e w5 ⟨Ax, j3, k3, rfl, hb5⟩; have A5 := A4.next hb5; clear hb5))
              go_ret
              exact tells1 rfl A5.below
            · have d0 : (c == 0) = false := by rw [beq_eq_false_iff_ne]; exact h0
              have HN2 := HNX.out h0
              clear h0 HNX
              go_wp2_with (first | (refine wpList_index_strs rfl _ _ _ rfl 6 endV k x rfl rfl Tryd.underlying40 hlt hc ?_) | (go_at_call 9; refine HX.out.mono ?_; rintro e w5 ⟨Ax, j3, k3, rfl, hb5⟩; have A5 := A4.next hb5; clear hb5))
              exact ⟨⟨k + 1, by omega, by go_num, HN2, A5⟩, by simp [intOf]; omega⟩
          · obtain rfl : k = 6 := by omega
            exact absurd (HN.over HE2.out) (by simp)
end Go.Proofs.YtinhlemebnlijaaDoor

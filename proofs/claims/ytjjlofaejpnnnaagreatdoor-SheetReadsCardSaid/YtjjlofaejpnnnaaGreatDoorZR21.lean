/-
  WALKS over the document's sheet: stands, whatever the node; has and refers, whatever has been read.
  WALKS over the document's sheet: takes: the first line.
  WALKS over the document's sheet: takes: a line of blanks.
  WALKS over the document's sheet: has, whatever has been read; takes in plain mathematics, by places.
-/
import Derived.Test.YtjjlofaejpnnnaaGreatDoorZR20
namespace Go.Proofs.YtjjlofaejpnnnaaGreatDoor
open Go Go.RowKit Go.Sort
set_option linter.unusedVariables false
theorem standsD_any (w : World) (B0 B gu c k : Nat) (v vd : Value) (l : List (Nd × Leaf)) (st : RS) (h : UIn B gu c k v vd l st w) (h0 : st.next ≠ 0) (hB0 : B0 ≤ gu) (n : Nd) (d : Nat) (hd : d ≤ 1048576) (hid : 1 ≤ n.id ∧ n.id < st.next)
    (hnn : n.par = 0 ∧ n.props = [] ∧ n.kids = [] ∧ n.refs = []) (hz : SzN n) (hk : k + 1 ≤ 4194304) :
    Calls Tryz.prog 55 #[.pointer (some ⟨gu, 0, none⟩), .agg (ndBox n), .int .i64 d] w (LineU B0 B gu c (k + 1) (standsV st n d) w) := by
  by_cases hr : 4096 ≤ st.nds.length ∨ 64 ≤ d ∨ st.deep.getLastD 0 < d
  · exact standsD_ref w B0 B gu c k v vd l st h h0 hB0 n d hd hr
  · by_cases hno : n.id ∈ idsOf st ∨ (d = 0 ∧ n.id ≤ rootV st)
    · rcases Nat.eq_zero_or_pos d with hd0 | hd0
      · exact standsD_no0 w B0 B gu c k v vd l st h h0 hB0 n d hd hid hr hno hd0
      · exact standsD_noP w B0 B gu c k v vd l st h h0 hB0 n d hd hid hr hno hd0
    · have hns : ¬ noStand st n.id d := by
        unfold noStand
        rintro (h1 | h1 | h1 | h1)
        · exact hr (.inl h1)
        · exact hr (.inr (.inl h1))
        · exact hr (.inr (.inr h1))
        · exact hno h1
      rcases Nat.eq_zero_or_pos st.nds.length with hn0 | hn0
      · have hd0 : d = 0 := by
          have e : st.deep = [] := List.eq_nil_of_length_eq_zero (by rw [(h.ok h0).dl]; exact hn0)
          rw [e] at hr
          simp only [List.getLastD_nil] at hr
          omega
        exact standsD_yesN w B0 B gu c k v vd l st h h0 hB0 n d hd hid hnn hz hns hd0 hn0 hk
      · rcases Nat.eq_zero_or_pos d with hd0 | hd0
        · exact standsD_yes0 w B0 B gu c k v vd l st h h0 hB0 n d hd hid hnn hz hns hd0 hn0 hk
        · exact standsD_yesP w B0 B gu c k v vd l st h h0 hB0 n d hd hid hnn hz hns hd0 hn0 hk
theorem refersD_any (w : World) (B0 B gu c k : Nat) (v vd : Value) (l : List (Nd × Leaf)) (st : RS) (h : UIn B gu c k v vd l st w) (h0 : st.next ≠ 0) (hB0 : B0 ≤ gu) (nd : Nd) (hl : st.nds.getLast? = some nd) (a s : ByteArray) (hs : s.size ≤ 1048576) (ha : a.size ≤ 1048576) (hk : k + 1 ≤ 4194304) :
    Calls Tryz.prog 53 #[.pointer (some ⟨gu, 0, none⟩), .string a, .string s] w (LineU B0 B gu c (k + 1) (refersV st nd a.data.toList s.data.toList) w) := by
  obtain ⟨A, cp, rfl, _⟩ := h.v_form
  have hn0 := (last_get hl).1
  have ho : w.ownsRow B 55 7 (.slice A st.nds.length cp) st.nds.length (allCells l) := by
    have := h.np.own
    unfold OwnN at this
    rwa [h.len] at this
  obtain ⟨g, rfl, _⟩ := own_addrB ho hn0
  obtain ⟨⟨⟨Pa, Pn, Pc⟩, ⟨Ka, Kn, Kc⟩, ⟨Ra, Rn, Rc⟩⟩, hL⟩ := h.at_ (last_get hl).2
  exact refersD_last w B0 B gu c k _ cp g vd l st h h0 hB0 rfl hn0 nd Pa Ka Ra Pn Pc Kn Kc Rn Rc hl hL a s hs ha hk
end Go.Proofs.YtjjlofaejpnnnaaGreatDoor
namespace Go.Proofs.YtjjlofaejpnnnaaGreatDoor
open Go Go.RowKit Go.Sort
set_option linter.unusedVariables false
theorem UIn.first {B gu : Nat} {v vd : Value} {l : List (Nd × Leaf)} {st : RS} {w : World} (h : UIn B gu 0 0 v vd l st w) (h0 : st.next = 0) {y : Int} (hR : RsOk ⟨y, [], []⟩) : UIn B gu 1 1 v vd l ⟨y, [], []⟩ ((w.setCell ⟨gu, 3, none⟩ (.int .i64 1)).setCell ⟨gu, 0, none⟩ (.int .i64 y)) := by
  have hz := h.zr h0
  have h1 := h.box.set_ 3 (.int .i64 1)
  have h2 := h1.set_ 0 (.int .i64 y)
  have n1 := h.np.other h.box (by decide) (by decide) (by decide) (by decide) 3 (.int .i64 1)
  have n2 := n1.other h1 (by decide) (by decide) (by decide) (by decide) 0 (.int .i64 y)
  refine ⟨by simpa [udBox] using h2, ?_, by rw [h.nds, hz.1], fun _ => hR, fun _ => ⟨rfl, rfl⟩, by simp, h.lu, by omega⟩
  rw [hz.2] at n2
  exact n2
set_option maxRecDepth 20000 in
set_option maxHeartbeats 3200000 in
theorem takesD_first (w : World) (B0 B gu : Nat) (v vd : Value) (l : List (Nd × Leaf)) (st : RS) (h : UIn B gu 0 0 v vd l st w) (h0 : st.next = 0) (hB0 : B0 ≤ gu) (s : ByteArray) (hs : s.size ≤ 1048576) :
    Calls Tryz.prog 21 #[.pointer (some ⟨gu, 0, none⟩), .string s] w (LineU B0 B gu 1 1 (takesV st s.data.toList) w) := by
  have HV : Hid (takesV st s.data.toList = if 5 < s.data.toList.length ∧ s.data.toList.take 5 = [110, 101, 120, 116, 32] then (numberV (s.data.toList.drop 5) 1048578).map fun n => ⟨n, [], []⟩ else none) := Lib.hid (by unfold takesV; rw [if_pos h0])
  have HOK : Hid (∀ st', takesV st s.data.toList = some st' → RsOk st') := Lib.hid fun st' e => line_ok h.ok (by rw [← takesV_line]; exact e)
  have c3 : w.cell? ⟨gu, 3, none⟩ = some (.int .i64 0) := (h.box.cell 3).trans rfl
  have c0 : w.cell? ⟨gu, 0, none⟩ = some (.int .i64 st.next) := (h.box.cell 0).trans rfl
  have f3 := h.box.frozen 3
  have f0 := h.box.frozen 0
  have HNO : Hid (takesV st s.data.toList = none → LineU B0 B gu 1 1 (takesV st s.data.toList) w (.returned (.bool false)) ((w.setCell ⟨gu, 3, none⟩ (.int .i64 1)).setCell ⟨gu, 0, none⟩ (.int .i64 0))) := Lib.hid fun hr =>
    lineU_no hr (((Below.refl B0 w).setCell (p := ⟨gu, 3, none⟩) hB0 _).setCell (p := ⟨gu, 0, none⟩) hB0 _) (by
      have h2 := (h.box.set_ 3 (.int .i64 1)).set_ 0 (.int .i64 0)
      rw [h2.cell]; rfl)
  have HYES : Hid (∀ y, takesV st s.data.toList = some ⟨y, [], []⟩ → LineU B0 B gu 1 1 (takesV st s.data.toList) w (.returned (.bool true)) ((w.setCell ⟨gu, 3, none⟩ (.int .i64 1)).setCell ⟨gu, 0, none⟩ (.int .i64 y))) := Lib.hid fun y hr =>
    lineU_yes hr (((Below.refl B0 w).setCell (p := ⟨gu, 3, none⟩) hB0 _).setCell (p := ⟨gu, 0, none⟩) hB0 _) (h.first h0 (HOK.out _ hr))
  clear h
  by_cases h5 : 5 < s.size
  · have e5 : (5 : Int) < (s.size : Int) := by omega
    have HTK : Hid ((s.extract 0 5).toList = s.data.toList.take 5) := Lib.hid (by rw [Lib.toList_data, Lib.extract_data, List.drop_zero])
    have HDR : Hid ((s.extract 5 s.size).data.toList = s.data.toList.drop 5) := Lib.hid (by rw [Lib.extract_data, List.take_of_length_le (by rw [List.length_drop, toList_eq]; omega)])
    have hxs : (s.extract 5 s.size).size ≤ maxLen := by rw [← toList_eq, HDR.out, List.length_drop, toList_eq]; unfold maxLen; omega
    cases hx : ((s.extract 0 5).toList == [110, 101, 120, 116, 32]) with
    | false =>
      have HN := Lib.hid (HNO.out (by rw [HV.out, if_neg fun hc => by rw [HTK.out, hc.2] at hx; simp at hx]))
      clear HNO HYES
      go_enter Tryz.func21, Tryz.ntmps21
      go_wp2_with fail
      go_ret
      exact HN.out
    | true =>
      have HV2 : Hid (takesV st s.data.toList = (numberV (s.extract 5 s.size).data.toList 1048578).map fun n => ⟨n, [], []⟩) := Lib.hid (by
        rw [HV.out, if_pos ⟨by rw [toList_eq]; exact h5, by rw [← HTK.out]; simpa using hx⟩, HDR.out])
      have HNU := Lib.hid (numberD_any (s.extract 5 s.size) 1048578 (w.setCell ⟨gu, 3, none⟩ (.int .i64 1)) hxs)
      cases hnv : numberV (s.extract 5 s.size).data.toList 1048578 with
      | none =>
        rw [hnv] at HNU HV2
        have HN := Lib.hid (HNO.out (by rw [HV2.out]; rfl))
        clear HNO HYES hnv hxs
        go_enter Tryz.func21, Tryz.ntmps21
        go_wp2_with (go_at_call 50; refine HNU.out.mono ?_; rintro e w4 ⟨rfl, rfl⟩; (try simp only [Option.getD_some, Option.getD_none, Option.isSome_some, Option.isSome_none]))
        go_ret
        exact HN.out
      | some y =>
        rw [hnv] at HNU HV2
        have HN := Lib.hid (HYES.out y (by rw [HV2.out]; rfl))
        clear HNO HYES hnv hxs
        go_enter Tryz.func21, Tryz.ntmps21
        go_wp2_with (go_at_call 50; refine HNU.out.mono ?_; rintro e w4 ⟨rfl, rfl⟩; (try simp only [Option.getD_some, Option.getD_none, Option.isSome_some, Option.isSome_none]))
        go_ret
        exact HN.out
  · have e5 : ¬ (5 : Int) < (s.size : Int) := by omega
    have HN := Lib.hid (HNO.out (by rw [HV.out, if_neg fun hc => h5 (by rw [← toList_eq]; exact hc.1)]))
    clear HNO HYES
    go_enter Tryz.func21, Tryz.ntmps21
    go_wp2_with fail
    go_ret
    exact HN.out
end Go.Proofs.YtjjlofaejpnnnaaGreatDoor
namespace Go.Proofs.YtjjlofaejpnnnaaGreatDoor
open Go Go.RowKit Go.Sort
set_option linter.unusedVariables false
/-- a line more is counted -/
theorem UIn.count {B gu c k : Nat} {v vd : Value} {l : List (Nd × Leaf)} {st : RS} {w : World} (h : UIn B gu c k v vd l st w) : UIn B gu (c + 1) k v vd l st (w.setCell ⟨gu, 3, none⟩ (.int .i64 ((c + 1 : Nat) : Int))) := by
  have h1 := h.box.set_ 3 (.int .i64 ((c + 1 : Nat) : Int))
  exact ⟨by simpa [udBox] using h1, h.np.other h.box (by decide) (by decide) (by decide) (by decide) 3 _, h.nds, h.ok, h.zr, h.ln, h.lu, h.k1⟩
/-- how many blanks stand ahead -/
def blanksV (l : List UInt8) : Nat := (l.takeWhile (· == 32)).length
theorem blanksV_le (l : List UInt8) : blanksV l ≤ l.length := (List.takeWhile_prefix _).length_le
theorem blanks_before (s : ByteArray) {n : Nat} (h : n < blanksV s.data.toList) (hn : n < s.size) : s[n].toNat = 32 := by
  have hp : s.data.toList.takeWhile (· == 32) <+: s.data.toList := List.takeWhile_prefix _
  have e1 : (s.data.toList.takeWhile (· == 32))[n]? = s.data.toList[n]? := by
    obtain ⟨t, ht⟩ := hp
    have h2 : (s.data.toList.takeWhile (· == 32) ++ t)[n]? = (s.data.toList.takeWhile (· == 32))[n]? := List.getElem?_append_left h
    rw [ht] at h2
    exact h2.symm
  have e2 := drop_get' s n hn
  have e3 : s.data.toList[n]? = some s[n] := by
    have := congrArg (·[0]?) e2
    simpa [List.getElem?_drop] using this
  rw [e3] at e1
  have hm := List.mem_of_getElem? e1
  have := takeWhile_mem hm
  have h32 : s[n] = 32 := by simpa using this
  rw [h32]; rfl
set_option maxRecDepth 20000 in
set_option maxHeartbeats 3200000 in
theorem takesD_blank (w : World) (B0 B gu c k : Nat) (v vd : Value) (l : List (Nd × Leaf)) (st : RS) (h : UIn B gu c k v vd l st w) (h0 : st.next ≠ 0) (hc : 1 ≤ c) (hcb : c ≤ 4194304) (hB0 : B0 ≤ gu) (s : ByteArray) (hs : s.size ≤ 1048576) (hd : blanksV s.data.toList = s.size) :
    Calls Tryz.prog 21 #[.pointer (some ⟨gu, 0, none⟩), .string s] w (LineU B0 B gu (c + 1) (k + 1) (takesV st s.data.toList) w) := by
  have HV : Hid (takesV st s.data.toList = none) := Lib.hid (by
    unfold takesV
    rw [if_neg h0]
    simp only
    have : s.data.toList.drop (s.data.toList.takeWhile (· == 32)).length = [] := List.drop_eq_nil_of_le (by rw [toList_eq]; unfold blanksV at hd; omega)
    rw [this])
  have c3 : w.cell? ⟨gu, 3, none⟩ = some (.int .i64 c) := (h.box.cell 3).trans rfl
  have f3 := h.box.frozen 3
  have hwc : IntKind.i64.wrap ((c : Int) + 1) = ((c + 1 : Nat) : Int) := by rw [IntWalk.i64_in _ (by omega)]; omega
  have e1 : (((c + 1 : Nat) : Int) == 1) = false := by rw [beq_eq_false_iff_ne]; omega
  have HN : Hid (LineU B0 B gu (c + 1) (k + 1) (takesV st s.data.toList) w (.returned (.bool false)) (w.setCell ⟨gu, 3, none⟩ (.int .i64 ((c + 1 : Nat) : Int)))) := Lib.hid (lineU_no HV.out ((Below.refl B0 w).setCell (p := ⟨gu, 3, none⟩) hB0 _) (by rw [h.count.box.cell]; rfl))
  have HBL : Hid (∀ (n : Nat) (hn : n < s.size), s[n].toNat = 32) := Lib.hid fun n hn => blanks_before s (by omega) hn
  clear h hd
  go_enter Tryz.func21, Tryz.ntmps21
  go_wp2_with fail
  go_loop [7] (fun a7 => ∃ n : Nat, a7 = .int .i64 n ∧ n ≤ s.size) (fun a7 => s.size - (intOf a7).toNat)
  case atStart => exact ⟨0, rfl, Nat.zero_le _⟩
  case round =>
    obtain ⟨n, rfl, hn⟩ := hrel
    by_cases hlt : n < s.size
    · have d1 : ((s[n].toNat : Int) == 32) = true := by rw [beq_iff_eq]; have := HBL.out n hlt; omega
      go_wp2_with fail
      go_round
      case rel => exact ⟨n + 1, by go_num, by omega⟩
      case measure => simp [intOf]; omega
    · have d2 : ¬ (n : Int) < (s.size : Int) := by omega
      have d3 : ((n : Int) == (s.size : Int)) = true := by rw [beq_iff_eq]; omega
      go_wp2_with fail
      go_ret
      exact HN.out
end Go.Proofs.YtjjlofaejpnnnaaGreatDoor
namespace Go.Proofs.YtjjlofaejpnnnaaGreatDoor
open Go Go.RowKit Go.Sort
set_option linter.unusedVariables false
theorem cut_two (s : ByteArray) (i : Nat) (hi : i ≤ s.size) : s = s.extract 0 i ++ s.extract i s.size ∧ (s.extract 0 i).size = i ∧ (s.extract i s.size).size = s.size - i := by
  refine ⟨?_, ?_, ?_⟩
  · apply ByteArray.ext
    apply Array.toList_inj.1
    rw [ByteArray.data_append, Array.toList_append, Lib.extract_data, Lib.extract_data, List.drop_zero, List.take_of_length_le (l := s.data.toList.drop i) (by rw [List.length_drop, toList_eq]; omega), Nat.sub_zero, List.take_append_drop]
  · rw [← toList_eq, Lib.extract_data, List.drop_zero, List.length_take, toList_eq]; omega
  · rw [← toList_eq, Lib.extract_data, List.length_take, List.length_drop, toList_eq]; omega
theorem unq_at (s : ByteArray) (i : Nat) (hi : i ≤ s.size) : unq s (i : Int) = ((unq (s.extract i s.size) 0).1, (i : Int) + (unq (s.extract i s.size) 0).2.1, (unq (s.extract i s.size) 0).2.2) := by
  obtain ⟨h1, h2, _⟩ := cut_two s i hi
  have h3 := unq_shift (p := s.extract 0 i) (v := s.extract i s.size)
  rw [← h1, h2] at h3
  exact h3
theorem hasD_any (w : World) (B0 B gu c k : Nat) (v vd : Value) (l : List (Nd × Leaf)) (st : RS) (h : UIn B gu c k v vd l st w) (h0 : st.next ≠ 0) (hB0 : B0 ≤ gu) (nd : Nd) (hl : st.nds.getLast? = some nd) (a s : ByteArray) (i : Nat) (hi : i ≤ s.size) (hs : s.size ≤ 1048576) (ha : a.size ≤ 1048576) (hk : k + 1 ≤ 4194304) :
    Calls Tryz.prog 54 #[.pointer (some ⟨gu, 0, none⟩), .string a, .string s, .int .i64 i] w (LineU B0 B gu c (k + 1) (hasV st nd a.data.toList (s.extract i s.size).data.toList) w) := by
  obtain ⟨A, cp, rfl, _⟩ := h.v_form
  have hn0 := (last_get hl).1
  have ho : w.ownsRow B 55 7 (.slice A st.nds.length cp) st.nds.length (allCells l) := by
    have := h.np.own
    unfold OwnN at this
    rwa [h.len] at this
  obtain ⟨g, rfl, _⟩ := own_addrB ho hn0
  obtain ⟨⟨⟨Pa, Pn, Pc⟩, ⟨Ka, Kn, Kc⟩, ⟨Ra, Rn, Rc⟩⟩, hL⟩ := h.at_ (last_get hl).2
  have hsb : s.size = i + (s.extract i s.size).size := by rw [(cut_two s i hi).2.2]; omega
  by_cases hp : Pn = 0
  · exact hasD_nil w B0 B gu c k _ cp g vd l st h h0 hB0 rfl hn0 nd Pa Ka Ra Pn Pc Kn Kc Rn Rc hl hL a _ s i hsb (unq_at s i hi) hs ha hk hp
  · exact hasD_some w B0 B gu c k _ cp g vd l st h h0 hB0 rfl hn0 nd Pa Ka Ra Pn Pc Kn Kc Rn Rc hl hL a _ s i hsb (unq_at s i hi) hs ha hk (by omega)
section
variable {st : RS} {s : ByteArray} {d : Nat}
/-- behind the blanks -/
theorem blanks_at (hd : blanksV s.data.toList = d) (hlt : d < s.size) : s[d].toNat ≠ 32 := by
  have e := drop_get' s d hlt
  subst hd
  intro h32
  have e32 : s[blanksV s.data.toList] = 32 := UInt8.toNat_inj.1 (by rw [h32]; rfl)
  rw [e32] at e
  have key : ∀ l : List UInt8, ∀ t, l.drop (l.takeWhile (· == 32)).length = 32 :: t → False := by
    intro l
    induction l with
    | nil => intro t h; simp at h
    | cons x l ih =>
      intro t h
      rw [List.takeWhile_cons] at h
      split at h
      · rw [List.length_cons, List.drop_succ_cons] at h
        exact ih t h
      · rename_i hx
        simp only [List.length_nil, List.drop_zero] at h
        injection h with h1 _
        subst h1
        exact hx rfl
  exact key _ _ e
theorem behind_size (i : Nat) : (s.data.toList.drop i).drop (wordP (s.data.toList.drop i)).length = s.data.toList.drop (i + (wordAt s i).size) := by
  rw [List.drop_drop, wordAt_size]
theorem at_le (i : Nat) (hi : i ≤ s.size) : i + (wordAt s i).size ≤ s.size := by
  have := wordP_le (s.data.toList.drop i)
  rw [List.length_drop, toList_eq] at this
  rw [wordAt_size]
  omega
theorem drop_end {i : Nat} (hi : s.size ≤ i) : s.data.toList.drop i = [] := List.drop_eq_nil_of_le (by rw [toList_eq]; exact hi)
theorem tail_is (i : Nat) : (s.extract i s.size).data.toList = s.data.toList.drop i := by
  rw [Lib.extract_data, List.take_of_length_le (by rw [List.length_drop, toList_eq]; exact Nat.le_refl _)]
theorem takesV_sub (h0 : st.next ≠ 0) (hd : blanksV s.data.toList = d) (hlt : d < s.size) : takesV st s.data.toList =
    if s[d].toNat = 46 ∨ s[d].toNat = 62 then
      (match st.nds.getLast?, s.data.toList.drop (d + 1 + (wordAt s (d + 1)).size) with
      | some nd, e :: v => if d = st.deep.getLastD 0 ∧ e = 61 ∧ wordB (wordAt s (d + 1)) = true then (if s[d].toNat = 62 then refersV st nd (wordAt s (d + 1)).data.toList v else hasV st nd (wordAt s (d + 1)).data.toList v) else none
      | _, _ => none)
    else (numberV (wordAt s d).data.toList st.next).bind fun id => nodeV st d id (s.data.toList.drop (d + (wordAt s d).size)) := by
  have e := drop_get' s d hlt
  have c46 : s[d].toNat = 46 ↔ s[d] = 46 := ⟨fun h => UInt8.toNat_inj.1 (by rw [h]; rfl), fun h => by rw [h]; rfl⟩
  have c62 : s[d].toNat = 62 ↔ s[d] = 62 := ⟨fun h => UInt8.toNat_inj.1 (by rw [h]; rfl), fun h => by rw [h]; rfl⟩
  unfold takesV
  rw [if_neg h0]
  unfold blanksV at hd
  simp only [hd, c46, c62]
  rw [← behind_size (d + 1), ← behind_size d]
  unfold wordB
  rw [wordAt_is, wordAt_is, e]
  rfl
theorem sub_no1 (h0 : st.next ≠ 0) (hd : blanksV s.data.toList = d) (hlt : d < s.size) (hc : s[d].toNat = 46 ∨ s[d].toNat = 62) (h : st.nds = []) : takesV st s.data.toList = none := by
  rw [takesV_sub h0 hd hlt, if_pos hc, h]; rfl
theorem sub_no2 (h0 : st.next ≠ 0) (hd : blanksV s.data.toList = d) (hlt : d < s.size) (hc : s[d].toNat = 46 ∨ s[d].toNat = 62) (h : ¬ (d = st.deep.getLastD 0 ∧ wordB (wordAt s (d + 1)) = true)) : takesV st s.data.toList = none := by
  rw [takesV_sub h0 hd hlt, if_pos hc]
  split
  · rw [if_neg fun hx => h ⟨hx.1, hx.2.2⟩]
  · rfl
theorem sub_no3 (h0 : st.next ≠ 0) (hd : blanksV s.data.toList = d) (hlt : d < s.size) (hc : s[d].toNat = 46 ∨ s[d].toNat = 62) (h : s.size ≤ d + 1 + (wordAt s (d + 1)).size) : takesV st s.data.toList = none := by
  rw [takesV_sub h0 hd hlt, if_pos hc, drop_end h]
  cases st.nds.getLast? <;> rfl
theorem sub_no4 (h0 : st.next ≠ 0) (hd : blanksV s.data.toList = d) (hlt : d < s.size) (hc : s[d].toNat = 46 ∨ s[d].toNat = 62) (h : d + 1 + (wordAt s (d + 1)).size < s.size) (hx : s[d + 1 + (wordAt s (d + 1)).size].toNat ≠ 61) : takesV st s.data.toList = none := by
  rw [takesV_sub h0 hd hlt, if_pos hc, drop_get' s _ h]
  cases st.nds.getLast? with
  | none => rfl
  | some nd =>
    simp only
    rw [if_neg fun hy => hx (by rw [hy.2.1]; rfl)]
theorem sub_yes {nd : Nd} (h0 : st.next ≠ 0) (hd : blanksV s.data.toList = d) (hlt : d < s.size) (hc : s[d].toNat = 46 ∨ s[d].toNat = 62) (hl : st.nds.getLast? = some nd) (hdp : d = st.deep.getLastD 0) (hw : wordB (wordAt s (d + 1)) = true) (h : d + 1 + (wordAt s (d + 1)).size < s.size) (hx : s[d + 1 + (wordAt s (d + 1)).size].toNat = 61) :
    takesV st s.data.toList = if s[d].toNat = 62 then refersV st nd (wordAt s (d + 1)).data.toList (s.extract (d + 1 + (wordAt s (d + 1)).size + 1) s.size).data.toList else hasV st nd (wordAt s (d + 1)).data.toList (s.extract (d + 1 + (wordAt s (d + 1)).size + 1) s.size).data.toList := by
  rw [takesV_sub h0 hd hlt, if_pos hc, drop_get' s _ h, hl]
  simp only
  rw [if_pos ⟨hdp, UInt8.toNat_inj.1 (by rw [hx]; rfl), hw⟩, tail_is]
/-- behind a blank: a word -/
def stepW (s : ByteArray) (at_ : Nat) : Option (ByteArray × Nat) := if h : at_ < s.size then (if s[at_].toNat = 32 ∧ wordB (wordAt s (at_ + 1)) = true then some (wordAt s (at_ + 1), at_ + 1 + (wordAt s (at_ + 1)).size) else none) else none
theorem wordV_at (at_ : Nat) : wordV (s.data.toList.drop at_) = (stepW s at_).map fun r => (r.1.data.toList, s.data.toList.drop r.2) := by
  unfold stepW
  by_cases h : at_ < s.size
  · rw [dif_pos h, drop_get' s _ h]
    have c32 : s[at_].toNat = 32 ↔ s[at_] = 32 := ⟨fun h => UInt8.toNat_inj.1 (by rw [h]; rfl), fun h => by rw [h]; rfl⟩
    show (if s[at_] = 32 ∧ wordL (wordP (s.data.toList.drop (at_ + 1))) = true then some (wordP (s.data.toList.drop (at_ + 1)), (s.data.toList.drop (at_ + 1)).drop (wordP (s.data.toList.drop (at_ + 1))).length) else none) = _
    rw [behind_size, ← wordAt_is]
    by_cases hc : s[at_] = 32 ∧ wordL (wordAt s (at_ + 1)).data.toList = true
    · rw [if_pos hc, if_pos ⟨c32.2 hc.1, hc.2⟩]; rfl
    · rw [if_neg hc, if_neg fun hx => hc ⟨c32.1 hx.1, hx.2⟩]; rfl
  · rw [dif_neg h, drop_end (by omega)]; rfl
theorem stepW_le {at_ : Nat} {r : ByteArray × Nat} (h : stepW s at_ = some r) : r.2 ≤ s.size ∧ r.1.size ≤ s.size := by
  unfold stepW at h
  split at h
  · rename_i hlt
    split at h
    · obtain rfl := Option.some.inj h
      have := at_le (s := s) (at_ + 1) (by omega)
      exact ⟨this, by simp only; omega⟩
    · cases h
  · cases h
/-- from here on: round k of the loop -/
def nodeR (st : RS) (s : ByteArray) (d : Nat) (id : Int) : Nat → ByteArray → ByteArray → Nat → Option RS
  | 0, role, con, at_ => if d = 0 then (stepW s at_).bind fun q => if q.2 = s.size then standsV st ⟨id, q.1, 0, role, [], [], []⟩ d else none
      else (stepW s at_).bind fun r => (stepW s r.2).bind fun q => if q.2 = s.size then standsV st ⟨id, q.1, 0, r.1, [], [], []⟩ d else none
  | 1, role, con, at_ => (stepW s at_).bind fun q => if q.2 = s.size then standsV st ⟨id, q.1, 0, role, [], [], []⟩ d else none
  | _, role, con, at_ => if at_ = s.size then standsV st ⟨id, con, 0, role, [], [], []⟩ d else none
theorem nodeR0 (id : Int) (role con : ByteArray) (p : Nat) : nodeR st s d id 0 role con p = if d = 0 then (stepW s p).bind fun q => if q.2 = s.size then standsV st ⟨id, q.1, 0, role, [], [], []⟩ d else none
      else (stepW s p).bind fun r => (stepW s r.2).bind fun q => if q.2 = s.size then standsV st ⟨id, q.1, 0, r.1, [], [], []⟩ d else none := rfl
theorem nodeR1 (id : Int) (role con : ByteArray) (p : Nat) : nodeR st s d id 1 role con p = (stepW s p).bind fun q => if q.2 = s.size then standsV st ⟨id, q.1, 0, role, [], [], []⟩ d else none := rfl
theorem nodeR2 (id : Int) (role con : ByteArray) (p : Nat) : nodeR st s d id 2 role con p = if p = s.size then standsV st ⟨id, con, 0, role, [], [], []⟩ d else none := rfl
theorem bytes_nil : bytesOf [] = ByteArray.empty := rfl
theorem nodeV_is (id : Int) (at_ : Nat) : nodeV st d id (s.data.toList.drop at_) = nodeR st s d id 0 ByteArray.empty ByteArray.empty at_ := by
  have hend : ∀ q : ByteArray × Nat, q.2 ≤ s.size → (s.data.toList.drop q.2 = [] ↔ q.2 = s.size) := fun q hq => by
    rw [List.drop_eq_nil_iff, toList_eq]; omega
  unfold nodeV
  rw [nodeR0]
  by_cases h0 : d = 0
  · rw [if_pos h0, if_pos h0]
    simp only [Option.bind_some, wordV_at, Option.bind_map]
    cases hq : stepW s at_ with
    | none => rfl
    | some q =>
      simp only [Option.bind_some, Function.comp, bytesOf_is, bytes_nil]
      by_cases he : q.2 = s.size
      · rw [if_pos he, if_pos ((hend q (stepW_le hq).1).2 he)]
      · rw [if_neg he, if_neg fun hx => he ((hend q (stepW_le hq).1).1 hx)]
  · rw [if_neg h0, if_neg h0]
    simp only [wordV_at, Option.bind_map]
    cases hr : stepW s at_ with
    | none => rfl
    | some r =>
      simp only [Option.bind_some, Function.comp, wordV_at, Option.bind_map]
      cases hq : stepW s r.2 with
      | none => rfl
      | some q =>
        simp only [Option.bind_some, Function.comp, bytesOf_is]
        by_cases he : q.2 = s.size
        · rw [if_pos he, if_pos ((hend q (stepW_le hq).1).2 he)]
        · rw [if_neg he, if_neg fun hx => he ((hend q (stepW_le hq).1).1 hx)]
theorem node_no (h0 : st.next ≠ 0) (hd : blanksV s.data.toList = d) (hlt : d < s.size) (hc : ¬ (s[d].toNat = 46 ∨ s[d].toNat = 62)) (h : numberV (wordAt s d).data.toList st.next = none) : takesV st s.data.toList = none := by
  rw [takesV_sub h0 hd hlt, if_neg hc, h]; rfl
theorem node_yes {id : Int} (h0 : st.next ≠ 0) (hd : blanksV s.data.toList = d) (hlt : d < s.size) (hc : ¬ (s[d].toNat = 46 ∨ s[d].toNat = 62)) (h : numberV (wordAt s d).data.toList st.next = some id) : takesV st s.data.toList = nodeR st s d id 0 ByteArray.empty ByteArray.empty (d + (wordAt s d).size) := by
  rw [takesV_sub h0 hd hlt, if_neg hc, h]
  exact nodeV_is id _
theorem numberV_in {l : List UInt8} {b id : Int} (h : numberV l b = some id) : 1 ≤ id ∧ id < b := by
  unfold numberV at h
  split at h
  · split at h
    · obtain rfl := Option.some.inj h; assumption
    · cases h
  · cases h
theorem stepW_none1 {at_ : Nat} (h : s.size ≤ at_) : stepW s at_ = none := by unfold stepW; rw [dif_neg (by omega)]
theorem stepW_none2 {at_ : Nat} (h : at_ < s.size) (hx : ¬ (s[at_].toNat = 32 ∧ wordB (wordAt s (at_ + 1)) = true)) : stepW s at_ = none := by unfold stepW; rw [dif_pos h, if_neg hx]
theorem stepW_some {at_ : Nat} (h : at_ < s.size) (hx : s[at_].toNat = 32) (hw : wordB (wordAt s (at_ + 1)) = true) : stepW s at_ = some (wordAt s (at_ + 1), at_ + 1 + (wordAt s (at_ + 1)).size) := by unfold stepW; rw [dif_pos h, if_pos ⟨hx, hw⟩]
end
end Go.Proofs.YtjjlofaejpnnnaaGreatDoor

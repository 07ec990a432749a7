/-
  WALKS: how many lines a text has, up to a thousand (of the law's own).
  WALKS over package sheet: stand, whatever has been read; node.
  WALKS over package sheet: line; strings.TrimLeft at a blank.
-/
import Derived.Test.YtjjlofaejpnnnaaGreatDoorZR25
namespace Go.Proofs.YtjjlofaejpnnnaaGreatDoor
open Go Go.RowKit
set_option linter.unusedVariables false
def LinesP (w : World) (e : Ending) (w' : World) : Prop := ∃ k : Nat, e = .returned (.int .i64 k) ∧ k ≤ 1000 ∧ w = w'
set_option maxHeartbeats 1600000 in
theorem linesT_any (s : ByteArray) (w : World) (hs : s.size ≤ 281474976710656) : Calls Tryz.prog 7 #[.string s] w (LinesP w) := by
  go_enter Tryz.func7, Tryz.ntmps7
  go_wp2_with fail
  go_loop [3, 4] (fun a3 a4 => ∃ i m : Nat, a3 = .int .i64 m ∧ a4 = .int .i64 i ∧ i ≤ s.size ∧ m ≤ 1000) (fun _ a4 => s.size - (intOf a4).toNat)
  case atStart => exact ⟨0, 0, rfl, rfl, Nat.zero_le _, Nat.zero_le _⟩
  case round =>
    obtain ⟨i, m, rfl, rfl, hi, hm⟩ := hrel
    by_cases hlt : i < s.size
    · by_cases hm1 : m < 1000
      · have d2 : (m : Int) < 1000 := by omega
        by_cases hc : s[i].toNat = 10
        · have d1 : ((s[i].toNat : Int) == 10) = true := by rw [beq_iff_eq]; omega
          clear hc
          go_wp2_with fail
          go_round
          case rel => exact ⟨i + 1, m + 1, by go_num, by go_num, by omega, by omega⟩
          case measure => simp [intOf]; omega
        · have d1 : ((s[i].toNat : Int) == 10) = false := by rw [beq_eq_false_iff_ne]; omega
          clear hc
          go_wp2_with fail
          go_round
          case rel => exact ⟨i + 1, m, rfl, by go_num, by omega, by omega⟩
          case measure => simp [intOf]; omega
      · have d2 : ¬ (m : Int) < 1000 := by omega
        go_wp2_with fail
        go_ret
        exact ⟨m, rfl, hm, rfl⟩
    · have d2 : ¬ (i : Int) < (s.size : Int) := by omega
      go_wp2_with fail
      go_ret
      exact ⟨m, rfl, hm, rfl⟩
end Go.Proofs.YtjjlofaejpnnnaaGreatDoor
namespace Go.Proofs.YtjjlofaejpnnnaaGreatDoor
open Go Go.RowKit
set_option linter.unusedVariables false
theorem stand_any (w : World) (B0 B gr gm k : Nat) (v vw : Value) (l : List (Nd × Leaf)) (st : RS) (h : RIn B gr gm k v vw l st w) (h0 : st.next ≠ 0) (hB0 : B0 ≤ gr) (hB1 : B0 ≤ gm) (n : Nd) (hn : n.par = 0 ∧ n.props = [] ∧ n.kids = [] ∧ n.refs = []) (hz : SzN n) (hid : 1 ≤ n.id ∧ n.id < st.next) (d : Nat) (hno : ¬ noStand st n.id d) (hk : k + 1 ≤ 4194304) :
    Calls Tryz.prog 86 #[.pointer (some ⟨gr, 0, none⟩), .int .i64 d, .agg #[.int .i64 n.id, .string n.con, .int .i64 n.par, .string n.role, .slice none 0 0, .slice none 0 0, .slice none 0 0]] w (StandQ B0 B gr gm k (stoodV st n d) w) := by
  have hok := h.ok h0
  obtain ⟨A, c, rfl, _, _⟩ := h.v_form
  rcases Nat.eq_zero_or_pos d with rfl | hd
  · rcases h.np.way.2 with ⟨rfl, _⟩ | ⟨gw, cap, cur, rfl, _⟩
    · exact stand0_nil w B0 B gr gm k _ c A l st h h0 hB0 hB1 n hn hz hid hno hk
    · exact stand0_some w B0 B gr gm k _ c gw _ cap A l st h h0 hB0 hB1 n hn hz hid hno hk
  · have hle : d ≤ st.deep.getLastD 0 := by
      rcases Nat.lt_or_ge (st.deep.getLastD 0) d with h1 | h1
      · exact absurd (.inr (.inr (.inl h1))) hno
      · exact h1
    obtain ⟨i, nd, hs⟩ := stood_at hok.dl hok.dk n hd hle
    obtain ⟨⟨P, ⟨Ka, Kn, Kc⟩, R⟩, hL⟩ := h.at_ hs.at_
    have ho := h.np.own
    unfold OwnN at ho
    rw [h.len] at ho
    have hilt := (List.getElem?_eq_some_iff.1 hs.at_).1
    obtain ⟨g, rfl, _⟩ := own_addrB ho (by omega)
    obtain ⟨Aw, cw, rfl, _, _⟩ := h.w_form
    have hw := h.np.way
    rw [wayI_len] at hw
    obtain ⟨gw, rfl, _⟩ := own_addrB hw (by omega)
    exact stand_pos w B0 B gr gm k _ c g gw _ cw l st h h0 hB0 hB1 n hn hz hid d hd hno hk i nd P R Ka Kn Kc hs hL
theorem nodeP_no {st : RS} {d : Nat} {s : List UInt8} (hl : st.deep.length = st.nds.length) (hk : DeepOk st.deep) (h : ∀ id, numberV (cutA 32 s) st.next = some id → noStand st id d) : nodeP st d s = none := by
  unfold nodeP
  cases hn : numberV (cutA 32 s) st.next with
  | none => rfl
  | some id =>
    have hno := h id hn
    simp only [Option.bind_some]
    split
    · simp only [Option.bind_some]
      split
      · rw [standsV_is hl hk, if_pos hno]
      · rfl
    · split
      · simp only [Option.bind_some]
        split
        · rw [standsV_is hl hk, if_pos hno]
        · rfl
      · rfl
/-- a node's line, behind its blanks, where the node may stand -/
theorem nodeP_0 {st : RS} {s : List UInt8} {id : Int} (hl : st.deep.length = st.nds.length) (hk : DeepOk st.deep) (h : numberV (cutA 32 s) st.next = some id) (hno : ¬ noStand st id 0) (c : ByteArray) (hc : c.data.toList = cutB 32 s) : nodeP st 0 s = if wordL c.data.toList = true then some (stoodV st ⟨id, c, 0, ⟨#[]⟩, [], [], []⟩ 0) else none := by
  unfold nodeP
  rw [h, Option.bind_some, if_pos rfl, Option.bind_some]
  simp only
  rw [← hc, bytesOf_is]
  split
  · rw [standsV_is hl hk, if_neg hno]; rfl
  · rfl
theorem nodeP_d {st : RS} {d : Nat} {s : List UInt8} {id : Int} (hd : 0 < d) (hl : st.deep.length = st.nds.length) (hk : DeepOk st.deep) (h : numberV (cutA 32 s) st.next = some id) (hno : ¬ noStand st id d) (r c : ByteArray) (hr : r.data.toList = cutA 32 (cutB 32 s)) (hc : c.data.toList = cutB 32 (cutB 32 s)) :
    nodeP st d s = if wordL r.data.toList = true then (if wordL c.data.toList = true then some (stoodV st ⟨id, c, 0, r, [], [], []⟩ d) else none) else none := by
  unfold nodeP
  rw [h, Option.bind_some, if_neg (by omega), ← hr, ← hc]
  split
  · rw [Option.bind_some]
    simp only
    rw [bytesOf_is, bytesOf_is]
    split
    · rw [standsV_is hl hk, if_neg hno]
    · rfl
  · rfl
theorem lineQ_stood {B0 B gr gm k : Nat} {r : Option RS} {st : RS} {w Y w' : World} (hr : r = some st) (hb : Below B0 w Y) (hs : Below B0 Y w' ∧ ∃ v vw l, RIn B gr gm (k + 1) v vw l st w') : LineQ B0 B gr gm k r w (.returned (.bool true)) w' := by
  obtain ⟨h1, v, vw, l, h2⟩ := hs
  exact lineQ_yes hr (hb.trans h1) h2
theorem szN0 {id : Int} {c r : ByteArray} (hc : c.size ≤ maxLen) (hr : r.size ≤ maxLen) : SzN ⟨id, c, 0, r, [], [], []⟩ := ⟨hc, hr, by simp, by simp⟩
set_option maxRecDepth 20000 in
set_option maxHeartbeats 6400000 in
theorem rdNode_any (w : World) (B0 B gr gm k : Nat) (v vw : Value) (l : List (Nd × Leaf)) (st : RS) (h : RIn B gr gm k v vw l st w) (h0 : st.next ≠ 0) (hB0 : B0 ≤ gr) (hB1 : B0 ≤ gm) (d : Nat) (s : ByteArray) (hs : s.size ≤ 1048576) (hd20 : d ≤ 1048576) (hk : k + 1 ≤ 4194304) (hE : Env w) :
    Calls Tryz.prog 46 #[.pointer (some ⟨gr, 0, none⟩), .int .i64 d, .string s] w (LineQ B0 B gr gm k (nodeP st d s.data.toList) w) := by
  have H := Lib.hid h
  have hok := h.ok h0
  have HOK := Lib.hid hok
  have hBw : B0 ≤ w.heap.size := Nat.le_trans hB0 (Nat.le_of_lt h.box.lt)
  have hgl := h.box.lt
  obtain ⟨A, c, rfl, hc1, hc2⟩ := h.v_form
  obtain ⟨Aw, cw, rfl, hw1, hw2⟩ := h.w_form
  obtain ⟨_, c1, _, _, c4⟩ := rd_cells h.box
  have HNOS : Hid (∀ (h : 4096 ≤ st.nds.length ∨ 64 ≤ d ∨ st.deep.getLastD 0 < d), nodeP st d s.data.toList = none) := Lib.hid fun hh => nodeP_no hok.dl hok.dk fun id _ => by
    unfold noStand
    rcases hh with h1 | h1 | h1
    · exact .inl h1
    · exact .inr (.inl h1)
    · exact .inr (.inr (.inl h1))
  have HNS : Hid (∀ id, st.nds.length < 4096 → d < 64 → d ≤ st.deep.getLastD 0 → ¬ (d = 0 ∧ id ≤ rootV st) → id ∉ idsOf st → ¬ noStand st id d) := Lib.hid fun id h1 h2 h3 h4 h5 hn => by
    unfold noStand at hn
    rcases hn with hn | hn | hn | hn | hn
    · omega
    · omega
    · omega
    · exact h5 hn
    · exact h4 hn
  have HFR : Hid (∀ (a : ByteArray) Y, a.size ≤ s.size → Below w.heap.size w Y → Calls Tryz.prog 85 #[.pointer (some ⟨gr, 0, none⟩), .int .i64 d, .string a] Y (NumP Y (freshV st d a.data.toList))) := Lib.hid fun a Y ha hY => fresh_any Y B gr gm k _ _ l st (h.after hY) h0 d a (by omega) (hE.below hY)
  have HST : Hid (∀ (id : Int) (cc rr : ByteArray) Y, cc.size ≤ s.size → rr.size ≤ s.size → 1 ≤ id ∧ id < st.next → ¬ noStand st id d → Below w.heap.size w Y → Calls Tryz.prog 86 #[.pointer (some ⟨gr, 0, none⟩), .int .i64 d, .agg #[.int .i64 id, .string cc, .int .i64 0, .string rr, .slice none 0 0, .slice none 0 0, .slice none 0 0]] Y (StandQ B0 B gr gm k (stoodV st ⟨id, cc, 0, rr, [], [], []⟩ d) Y)) := Lib.hid fun id cc rr Y h1 h2 h3 h4 hY => stand_any Y B0 B gr gm k _ _ l st (h.after hY) h0 hB0 hB1 ⟨id, cc, 0, rr, [], [], []⟩ ⟨rfl, rfl, rfl, rfl⟩ (szN0 (by unfold maxLen; omega) (by unfold maxLen; omega)) h3 d h4 hk
  clear h hok hE
  generalize hq : st.deep.getLastD 0 = q at c4 HNOS HNS hw1
  generalize hnl : st.nds.length = nl at c1 HNOS HNS hc1
  have HQ := Lib.hid hq
  clear hq hnl
  by_cases g1 : q < d
  · have g1' : (q : Int) < (d : Int) := by omega
    have HF := Lib.hid (HNOS.out (.inr (.inr g1)))
    go_enter Tryz.func46, Tryz.ntmps46
    go_wp2_with fail
    go_ret
    exact lineQ_no HF.out ((Below.refl _ _).mono hBw)
  · have g1' : ¬ (q : Int) < (d : Int) := by omega
    by_cases g2 : 64 ≤ d
    · have g2' : ¬ (d : Int) < 64 := by omega
      have g2'' : (64 : Int) ≤ (d : Int) := by omega
      have HF := Lib.hid (HNOS.out (.inr (.inl g2)))
      go_enter Tryz.func46, Tryz.ntmps46
      go_wp2_with fail
      go_ret
      exact lineQ_no HF.out ((Below.refl _ _).mono hBw)
    · have g2' : (d : Int) < 64 := by omega
      have g2'' : ¬ (64 : Int) ≤ (d : Int) := by omega
      by_cases g3 : 4096 ≤ nl
      · have g3' : ¬ (nl : Int) < 4096 := by omega
        have g3'' : (4096 : Int) ≤ (nl : Int) := by omega
        have HF := Lib.hid (HNOS.out (.inl g3))
        go_enter Tryz.func46, Tryz.ntmps46
        go_wp2_with fail
        go_ret
        exact lineQ_no HF.out ((Below.refl _ _).mono hBw)
      · have g3' : (nl : Int) < 4096 := by omega
        have g3'' : ¬ (4096 : Int) ≤ (nl : Int) := by omega
        have HCU := Lib.hid (cut_any s 32 w (by omega))
        go_enter Tryz.func46, Tryz.ntmps46
        go_upto_region 4 with (go_at_call 18; refine HCU.out.mono ?_; rintro e w1 ⟨a, b, rfl, ha, hb, hza, hzb, hb1⟩; have HB1 := Lib.hid hb1; clear hb1)
        have HFa := Lib.hid (HFR.out a w1 hza HB1.out)
        have HA := Lib.hid ha
        have HB := Lib.hid hb
        clear ha hb c1 c4
        cases hf : freshV st d a.data.toList with
        | none =>
          rw [hf] at HFa
          have HF : Hid (nodeP st d s.data.toList = none) := Lib.hid (nodeP_no HOK.out.dl HOK.out.dk fun id hid => by
            unfold freshV at hf
            rw [HA.out, hid, Option.bind_some] at hf
            split at hf
            · rename_i hx
              rcases hx with hx | hx
              · exact .inr (.inr (.inr (.inr hx)))
              · exact .inr (.inr (.inr (.inl hx)))
            · cases hf)
          clear hf
          go_wp2_with (go_at_call 85; refine HFa.out.mono ?_; rintro e w2 ⟨rfl, hb2⟩; have HB2 : Hid (Below w.heap.size w w2) := Lib.hid (HB1.out.trans (hb2.mono HB1.out.size)); clear hb2; (try simp only [Option.getD_none, Option.isSome_none]))
          go_ret
          exact lineQ_no HF.out (HB2.out.mono hBw)
        | some id =>
          rw [hf] at HFa
          have hfx : numberV (cutA 32 s.data.toList) st.next = some id ∧ ¬ (d = 0 ∧ id ≤ rootV st) ∧ id ∉ idsOf st := by
            unfold freshV at hf
            rw [HA.out] at hf
            obtain ⟨y, hy, hf⟩ := Option.bind_eq_some_iff.1 hf
            split at hf
            · cases hf
            · rename_i hx
              obtain rfl := Option.some.inj hf
              exact ⟨hy, fun h => hx (.inl h), fun h => hx (.inr h)⟩
          have HNU := Lib.hid hfx.1
          have HID := Lib.hid (numberV_some hfx.1).2
          have HNO := Lib.hid (HNS.out id (by omega) (by omega) (by omega) hfx.2.1 hfx.2.2)
          clear hf hfx HNS HNOS
          go_upto_region 7 with (go_at_call 85; refine HFa.out.mono ?_; rintro e w2 ⟨rfl, hb2⟩; have HB2 : Hid (Below w.heap.size w w2) := Lib.hid (HB1.out.trans (hb2.mono HB1.out.size)); clear hb2; (try simp only [Option.getD_some, Option.isSome_some]))
          have HN0 : Hid (Blk (w2.alloc (.cells #[.int .i64 id, .string ⟨#[]⟩, .int .i64 0, .string ⟨#[]⟩, .slice none 0 0, .slice none 0 0, .slice none 0 0] 55)) w2.heap.size 55 #[.int .i64 id, .string ⟨#[]⟩, .int .i64 0, .string ⟨#[]⟩, .slice none 0 0, .slice none 0 0, .slice none 0 0]) := Lib.hid (Blk.new _ _ _)
          have HB3 : Hid (Below w.heap.size w (w2.alloc (.cells #[.int .i64 id, .string ⟨#[]⟩, .int .i64 0, .string ⟨#[]⟩, .slice none 0 0, .slice none 0 0, .slice none 0 0] 55))) := Lib.hid (HB2.out.alloc HB2.out.size _)
          have HGN : Hid (w.heap.size ≤ w2.heap.size) := Lib.hid HB2.out.size
          by_cases hd : d = 0
          · subst hd
            have HFV : Hid (nodeP st 0 s.data.toList = if wordL b.data.toList = true then some (stoodV st ⟨id, b, 0, ⟨#[]⟩, [], [], []⟩ 0) else none) := Lib.hid (nodeP_0 HOK.out.dl HOK.out.dk HNU.out HNO.out b HB.out)
            go_upto_region 14 with (fail)
            generalize w2.alloc (.cells #[.int .i64 id, .string ⟨#[]⟩, .int .i64 0, .string ⟨#[]⟩, .slice none 0 0, .slice none 0 0, .slice none 0 0] 55) = W3 at HN0 HB3 ⊢
            generalize w2.heap.size = gn at HN0 HGN ⊢
            cases hwc : wordL b.data.toList with
            | false =>
              have HW9 := Lib.hid (word_no b W3 (by omega) hwc)
              have HF : Hid (nodeP st 0 s.data.toList = none) := Lib.hid (by rw [HFV.out, hwc]; rfl)
              clear hwc
              go_wp2_with (first | (go_at_call 83; refine HW9.out.mono ?_; rintro e w9 ⟨rfl, hb9⟩; have HB9 : Hid (Below w.heap.size w w9) := Lib.hid (HB3.out.trans (hb9.mono HB3.out.size)); have HN9 := Lib.hid (HN0.out.after hb9); have n1 := (HN9.out.cell 1).trans (show _ = some (.string ⟨#[]⟩) from rfl); have f1 := HN9.out.frozen 1; clear hb9) | (go_at_call 86; refine HST9.out.mono ?_; rintro e wz ⟨rfl, hz9⟩; have HZ9 := Lib.hid hz9; clear hz9))
              go_ret
              exact lineQ_no HF.out ((HB9.out.setCell (p := ⟨gn, 1, none⟩) HGN.out _).mono hBw)
            | true =>
              have HW9 := Lib.hid (word_yes b W3 (by omega) hwc)
              have HF : Hid (nodeP st 0 s.data.toList = some (stoodV st ⟨id, b, 0, ⟨#[]⟩, [], [], []⟩ 0)) := Lib.hid (by rw [HFV.out, hwc]; rfl)
              clear hwc
              go_upto_region 17 with (first | (go_at_call 83; refine HW9.out.mono ?_; rintro e w9 ⟨rfl, hb9⟩; have HB9 : Hid (Below w.heap.size w w9) := Lib.hid (HB3.out.trans (hb9.mono HB3.out.size)); have HN9 := Lib.hid (HN0.out.after hb9); have n1 := (HN9.out.cell 1).trans (show _ = some (.string ⟨#[]⟩) from rfl); have f1 := HN9.out.frozen 1; clear hb9) | (go_at_call 86; refine HST9.out.mono ?_; rintro e wz ⟨rfl, hz9⟩; have HZ9 := Lib.hid hz9; clear hz9))
              have HNX : Hid (Blk (w9.setCell ⟨gn, 1, none⟩ (.string b)) gn 55 #[.int .i64 id, .string b, .int .i64 0, .string ⟨#[]⟩, .slice none 0 0, .slice none 0 0, .slice none 0 0]) := Lib.hid (by have := HN9.out.set_ 1 (.string b); simpa using this)
              have HBX : Hid (Below w.heap.size w (w9.setCell ⟨gn, 1, none⟩ (.string b))) := Lib.hid (HB9.out.setCell (p := ⟨gn, 1, none⟩) HGN.out _)
              generalize w9.setCell ⟨gn, 1, none⟩ (.string b) = WX at HNX HBX ⊢
              clear n1 f1
              have m0 := (HNX.out.cell 0).trans (show _ = some (.int .i64 id) from rfl)
              have m1 := (HNX.out.cell 1).trans (show _ = some (.string b) from rfl)
              have m2 := (HNX.out.cell 2).trans (show _ = some (.int .i64 0) from rfl)
              have m3 := (HNX.out.cell 3).trans (show _ = some (.string ⟨#[]⟩) from rfl)
              have m4 := (HNX.out.cell 4).trans (show _ = some (.slice none 0 0) from rfl)
              have m5 := (HNX.out.cell 5).trans (show _ = some (.slice none 0 0) from rfl)
              have m6 := (HNX.out.cell 6).trans (show _ = some (.slice none 0 0) from rfl)
              have HST9 := Lib.hid (HST.out id b ⟨#[]⟩ WX (by omega) (by show 0 ≤ _; omega) HID.out HNO.out HBX.out)
              go_wp2_with (first | (go_at_call 83; refine HW9.out.mono ?_; rintro e w9 ⟨rfl, hb9⟩; have HB9 : Hid (Below w.heap.size w w9) := Lib.hid (HB3.out.trans (hb9.mono HB3.out.size)); have HN9 := Lib.hid (HN0.out.after hb9); have n1 := (HN9.out.cell 1).trans (show _ = some (.string ⟨#[]⟩) from rfl); have f1 := HN9.out.frozen 1; clear hb9) | (go_at_call 86; refine HST9.out.mono ?_; rintro e wz ⟨rfl, hz9⟩; have HZ9 := Lib.hid hz9; clear hz9))
              go_ret
              exact lineQ_stood HF.out (HBX.out.mono hBw) HZ9.out
          · have hd1 : (0 : Int) < (d : Int) := by omega
            have hdp : 0 < d := by omega
            go_upto_region 10 with (fail)
            generalize w2.alloc (.cells #[.int .i64 id, .string ⟨#[]⟩, .int .i64 0, .string ⟨#[]⟩, .slice none 0 0, .slice none 0 0, .slice none 0 0] 55) = W3 at HN0 HB3 ⊢
            generalize w2.heap.size = gn at HN0 HGN ⊢
            have HCV := Lib.hid (cut_any b 32 W3 (by omega))
            go_upto_region 11 with (go_at_call 18; refine HCV.out.mono ?_; rintro e w4 ⟨a2, b2, rfl, ha2, hb2, hza2, hzb2, hb4⟩; have HB4 : Hid (Below w.heap.size w w4) := Lib.hid (HB3.out.trans (hb4.mono HB3.out.size)); have HN4 := Lib.hid (HN0.out.after hb4); clear hb4)
            have HFV : Hid (nodeP st d s.data.toList = if wordL a2.data.toList = true then (if wordL b2.data.toList = true then some (stoodV st ⟨id, b2, 0, a2, [], [], []⟩ d) else none) else none) := Lib.hid (nodeP_d hdp HOK.out.dl HOK.out.dk HNU.out HNO.out a2 b2 (by rw [ha2, HB.out]) (by rw [hb2, HB.out]))
            clear ha2 hb2
            cases hwr : wordL a2.data.toList with
            | false =>
              have HW := Lib.hid (word_no a2 w4 (by omega) hwr)
              have HF : Hid (nodeP st d s.data.toList = none) := Lib.hid (by rw [HFV.out, hwr]; rfl)
              clear hwr
              go_wp2_with (go_at_call 83; refine HW.out.mono ?_; rintro e w5 ⟨rfl, hb5⟩; have HB5 : Hid (Below w.heap.size w w5) := Lib.hid (HB4.out.trans (hb5.mono HB4.out.size)); have HN5 := Lib.hid (HN4.out.after hb5); have n3 := (HN5.out.cell 3).trans (show _ = some (.string ⟨#[]⟩) from rfl); have f3 := HN5.out.frozen 3; clear hb5)
              go_ret
              exact lineQ_no HF.out ((HB5.out.setCell (p := ⟨gn, 3, none⟩) HGN.out _).mono hBw)
            | true =>
              have HW := Lib.hid (word_yes a2 w4 (by omega) hwr)
              have HFV2 : Hid (nodeP st d s.data.toList = if wordL b2.data.toList = true then some (stoodV st ⟨id, b2, 0, a2, [], [], []⟩ d) else none) := Lib.hid (by rw [HFV.out, hwr]; rfl)
              clear hwr
              go_upto_region 14 with (go_at_call 83; refine HW.out.mono ?_; rintro e w5 ⟨rfl, hb5⟩; have HB5 : Hid (Below w.heap.size w w5) := Lib.hid (HB4.out.trans (hb5.mono HB4.out.size)); have HN5 := Lib.hid (HN4.out.after hb5); have n3 := (HN5.out.cell 3).trans (show _ = some (.string ⟨#[]⟩) from rfl); have f3 := HN5.out.frozen 3; clear hb5)
              have HN6 : Hid (Blk (w5.setCell ⟨gn, 3, none⟩ (.string a2)) gn 55 #[.int .i64 id, .string ⟨#[]⟩, .int .i64 0, .string a2, .slice none 0 0, .slice none 0 0, .slice none 0 0]) := Lib.hid (by have := HN5.out.set_ 3 (.string a2); simpa using this)
              have HB6 : Hid (Below w.heap.size w (w5.setCell ⟨gn, 3, none⟩ (.string a2))) := Lib.hid (HB5.out.setCell (p := ⟨gn, 3, none⟩) HGN.out _)
              generalize w5.setCell ⟨gn, 3, none⟩ (.string a2) = W6 at HN6 HB6 ⊢
              clear n3 f3
              cases hwc : wordL b2.data.toList with
              | false =>
                have HW9 := Lib.hid (word_no b2 W6 (by omega) hwc)
                have HF : Hid (nodeP st d s.data.toList = none) := Lib.hid (by rw [HFV2.out, hwc]; rfl)
                clear hwc
                go_wp2_with (first | (go_at_call 83; refine HW9.out.mono ?_; rintro e w9 ⟨rfl, hb9⟩; have HB9 : Hid (Below w.heap.size w w9) := Lib.hid (HB6.out.trans (hb9.mono HB6.out.size)); have HN9 := Lib.hid (HN6.out.after hb9); have n1 := (HN9.out.cell 1).trans (show _ = some (.string ⟨#[]⟩) from rfl); have f1 := HN9.out.frozen 1; clear hb9) | (go_at_call 86; refine HST9.out.mono ?_; rintro e wz ⟨rfl, hz9⟩; have HZ9 := Lib.hid hz9; clear hz9))
                go_ret
                exact lineQ_no HF.out ((HB9.out.setCell (p := ⟨gn, 1, none⟩) HGN.out _).mono hBw)
              | true =>
                have HW9 := Lib.hid (word_yes b2 W6 (by omega) hwc)
                have HF : Hid (nodeP st d s.data.toList = some (stoodV st ⟨id, b2, 0, a2, [], [], []⟩ d)) := Lib.hid (by rw [HFV2.out, hwc]; rfl)
                clear hwc
                go_upto_region 17 with (first | (go_at_call 83; refine HW9.out.mono ?_; rintro e w9 ⟨rfl, hb9⟩; have HB9 : Hid (Below w.heap.size w w9) := Lib.hid (HB6.out.trans (hb9.mono HB6.out.size)); have HN9 := Lib.hid (HN6.out.after hb9); have n1 := (HN9.out.cell 1).trans (show _ = some (.string ⟨#[]⟩) from rfl); have f1 := HN9.out.frozen 1; clear hb9) | (go_at_call 86; refine HST9.out.mono ?_; rintro e wz ⟨rfl, hz9⟩; have HZ9 := Lib.hid hz9; clear hz9))
                have HNX : Hid (Blk (w9.setCell ⟨gn, 1, none⟩ (.string b2)) gn 55 #[.int .i64 id, .string b2, .int .i64 0, .string a2, .slice none 0 0, .slice none 0 0, .slice none 0 0]) := Lib.hid (by have := HN9.out.set_ 1 (.string b2); simpa using this)
                have HBX : Hid (Below w.heap.size w (w9.setCell ⟨gn, 1, none⟩ (.string b2))) := Lib.hid (HB9.out.setCell (p := ⟨gn, 1, none⟩) HGN.out _)
                generalize w9.setCell ⟨gn, 1, none⟩ (.string b2) = WX at HNX HBX ⊢
                clear n1 f1
                have m0 := (HNX.out.cell 0).trans (show _ = some (.int .i64 id) from rfl)
                have m1 := (HNX.out.cell 1).trans (show _ = some (.string b2) from rfl)
                have m2 := (HNX.out.cell 2).trans (show _ = some (.int .i64 0) from rfl)
                have m3 := (HNX.out.cell 3).trans (show _ = some (.string a2) from rfl)
                have m4 := (HNX.out.cell 4).trans (show _ = some (.slice none 0 0) from rfl)
                have m5 := (HNX.out.cell 5).trans (show _ = some (.slice none 0 0) from rfl)
                have m6 := (HNX.out.cell 6).trans (show _ = some (.slice none 0 0) from rfl)
                have HST9 := Lib.hid (HST.out id b2 a2 WX (by omega) (by omega) HID.out HNO.out HBX.out)
                go_wp2_with (first | (go_at_call 83; refine HW9.out.mono ?_; rintro e w9 ⟨rfl, hb9⟩; have HB9 : Hid (Below w.heap.size w w9) := Lib.hid (HB6.out.trans (hb9.mono HB6.out.size)); have HN9 := Lib.hid (HN6.out.after hb9); have n1 := (HN9.out.cell 1).trans (show _ = some (.string ⟨#[]⟩) from rfl); have f1 := HN9.out.frozen 1; clear hb9) | (go_at_call 86; refine HST9.out.mono ?_; rintro e wz ⟨rfl, hz9⟩; have HZ9 := Lib.hid hz9; clear hz9))
                go_ret
                exact lineQ_stood HF.out (HBX.out.mono hBw) HZ9.out
end Go.Proofs.YtjjlofaejpnnnaaGreatDoor
namespace Go.Proofs.YtjjlofaejpnnnaaGreatDoor
open Go Go.RowKit
set_option linter.unusedVariables false
def behindB (l : List UInt8) : List UInt8 := l.drop (l.takeWhile (· == 32)).length
theorem behindB_cons (c : UInt8) (l : List UInt8) : behindB (c :: l) = if c = 32 then behindB l else c :: l := by
  unfold behindB
  rw [List.takeWhile_cons]
  by_cases h : c = 32
  · rw [if_pos h, if_pos (by simpa using h), List.length_cons, List.drop_succ_cons]
  · rw [if_neg h, if_neg (by simpa using h)]; rfl
def TrimP (s : ByteArray) (w : World) (e : Ending) (w' : World) : Prop := ∃ r : ByteArray, e = .returned (.string r) ∧ r.data.toList = behindB s.data.toList ∧ r.size ≤ s.size ∧ w = w'
set_option maxHeartbeats 1600000 in
theorem trimB_any (s : ByteArray) (w : World) (hs : s.size ≤ 281474976710656) : Calls Tryz.prog 77 #[.string s, .int .u8 32] w (TrimP s w) := by
  go_enter Tryz.func77, Tryz.ntmps77
  go_wp2_with fail
  go_loop [0] (fun i => ∃ r : ByteArray, i = .string r ∧ r.size ≤ s.size ∧ Hid (behindB s.data.toList = behindB r.data.toList)) (fun i => match i with | .string r => r.size | _ => 0)
  case atStart => exact ⟨s, rfl, Nat.le_refl _, Lib.hid rfl⟩
  case round =>
    obtain ⟨r, rfl, hr, HR⟩ := hrel
    by_cases h0 : 0 < r.size
    · have e0 := drop_get' r 0 h0
      rw [List.drop_zero] at e0
      have hr0 : (0 : Int) < (r.size : Int) := by omega
      by_cases hc : r[0] = 32
      · have d1 : ((r[0].toNat : Int) == 32) = true := by rw [hc]; rfl
        have hsz : (r.extract 1 r.size).size = r.size - 1 := by rw [← toList_eq, Lib.extract_data, List.length_take, List.length_drop, toList_eq]; omega
        have HX : Hid (behindB s.data.toList = behindB (r.extract 1 r.size).data.toList) := Lib.hid (by
          rw [HR.out, Lib.extract_data, e0, behindB_cons, if_pos hc]
          rw [List.take_of_length_le (by simp)]
          rfl)
        clear hc e0
        go_wp2_with fail
        go_round
        case rel => exact ⟨_, rfl, by omega, HX⟩
        case measure => simp only; omega
      · have d1 : ((r[0].toNat : Int) == 32) = false := by
          rw [beq_eq_false_iff_ne]
          intro h
          exact hc (UInt8.toNat_inj.1 (by have : (32 : UInt8).toNat = 32 := rfl; omega))
        have HX : Hid (behindB s.data.toList = r.data.toList) := Lib.hid (by rw [HR.out, e0, behindB_cons, if_neg hc])
        clear hc e0
        go_wp2_with fail
        go_ret
        exact ⟨r, rfl, HX.out.symm, hr, rfl⟩
    · have hr0 : ¬ (0 : Int) < (r.size : Int) := by omega
      have HX : Hid (behindB s.data.toList = r.data.toList) := Lib.hid (by
        have : r.data.toList = [] := List.eq_nil_of_length_eq_zero (by rw [toList_eq]; omega)
        rw [HR.out, this]; rfl)
      go_wp2_with fail
      go_ret
      exact ⟨r, rfl, HX.out.symm, hr, rfl⟩
set_option maxHeartbeats 1600000 in
theorem trim_at (s p : ByteArray) (w : World) (h1 : p.size = 1) (hl : 0 < p.size) (hv : p[0].toNat = 32) (he : p.toList.isEmpty = false) (hs : s.size ≤ 281474976710656) : Calls Tryz.prog 42 #[.string s, .string p] w (TrimP s w) := by
  have HT : Hid (Calls Tryz.prog 77 #[.string s, .int .u8 (p[0].toNat : Int)] w (TrimP s w)) := Lib.hid (by
    rw [hv]
    exact trimB_any s w hs)
  have d1 : ((p.size : Int) == 1) = true := by rw [h1]; rfl
  have d2 : (p[0].toNat : Int) < 128 := by omega
  clear hs h1 hv
  cases h0 : s.toList.isEmpty with
  | true =>
    have HX : Hid (s.data.toList = behindB s.data.toList) := Lib.hid (by
      have : s.data.toList = [] := by rw [← Lib.toList_data]; simpa using h0
      rw [this]; rfl)
    go_enter Tryz.func42, Tryz.ntmps42
    go_wp2_with fail
    go_ret
    exact ⟨s, rfl, HX.out, Nat.le_refl _, rfl⟩
  | false =>
    go_enter Tryz.func42, Tryz.ntmps42
    go_wp2_with (go_at_call 77; refine HT.out.mono ?_; rintro e w' ⟨r, rfl, h1, h2, h3⟩)
    go_ret
    exact ⟨r, rfl, h1, h2, h3⟩
theorem trim_any (s : ByteArray) (w : World) (hs : s.size ≤ 281474976710656) : Calls Tryz.prog 42 #[.string s, .string ⟨#[32]⟩] w (TrimP s w) :=
  trim_at s ⟨#[32]⟩ w rfl (by decide) rfl (by rw [Lib.toList_data]; rfl) hs
theorem lineV_next {st : RS} (h : st.next ≠ 0) (s : List UInt8) : lineV st s = (match behindB s with
    | 46 :: t => propP st (s.takeWhile (· == 32)).length t
    | 62 :: t => refP st (s.takeWhile (· == 32)).length t
    | r => nodeP st (s.takeWhile (· == 32)).length r) := by
  unfold lineV behindB
  rw [if_neg h]
  rfl
theorem take1 {l : List UInt8} {c : UInt8} (h : l.take 1 = [c]) : l = c :: l.drop 1 := by
  cases l with
  | nil => simp at h
  | cons x t => simp at h; subst h; rfl
set_option maxRecDepth 20000 in
set_option maxHeartbeats 3200000 in
theorem rdLine_any (w : World) (B0 B gr gm k : Nat) (v vw : Value) (l : List (Nd × Leaf)) (st : RS) (h : RIn B gr gm k v vw l st w) (hB0 : B0 ≤ gr) (hB1 : B0 ≤ gm) (s : ByteArray) (hs : s.size ≤ 1048576) (hk : k + 1 ≤ 4194304) (hE : Env w) :
    Calls Tryz.prog 19 #[.pointer (some ⟨gr, 0, none⟩), .string s] w (LineQ B0 B gr gm k (lineV st s.data.toList) w) := by
  have hgl := h.box.lt
  obtain ⟨c0, _⟩ := rd_cells h.box
  by_cases h0 : st.next = 0
  · have HF := Lib.hid (first_any w B0 B gr gm k v vw l st h h0 hB0 s hs hk hE)
    have e : lineV st s.data.toList = firstP s.data.toList := by unfold lineV; rw [if_pos h0]
    rw [e]
    have d0 : (st.next == 0) = true := by rw [h0]; rfl
    clear h hE h0 e
    go_enter Tryz.func19, Tryz.ntmps19
    go_wp2_with fail
    refine HF.out.mono ?_
    rintro e w' ⟨rfl, h1, h2⟩
    go_wp2_with fail
    go_ret
    exact ⟨rfl, h1, h2⟩
  · have d0 : (st.next == 0) = false := by simpa using h0
    have HT := Lib.hid (trim_any s w (by omega))
    have HPP : Hid (∀ (d : Nat) (t : ByteArray), t.size ≤ s.size → Calls Tryz.prog 44 #[.pointer (some ⟨gr, 0, none⟩), .int .i64 d, .string t] w (LineQ B0 B gr gm k (propP st d t.data.toList) w)) := Lib.hid fun d t ht => prop_any w B0 B gr gm k v vw l st h h0 hB0 hB1 d t (by omega) hk
    have HPR : Hid (∀ (d : Nat) (t : ByteArray), t.size ≤ s.size → Calls Tryz.prog 45 #[.pointer (some ⟨gr, 0, none⟩), .int .i64 d, .string t] w (LineQ B0 B gr gm k (refP st d t.data.toList) w)) := Lib.hid fun d t ht => ref_any w B0 B gr gm k v vw l st h h0 hB0 hB1 d t (by omega) hk hE
    have HPN : Hid (∀ (d : Nat) (t : ByteArray), t.size ≤ s.size → d ≤ 1048576 → Calls Tryz.prog 46 #[.pointer (some ⟨gr, 0, none⟩), .int .i64 d, .string t] w (LineQ B0 B gr gm k (nodeP st d t.data.toList) w)) := Lib.hid fun d t ht hd => rdNode_any w B0 B gr gm k v vw l st h h0 hB0 hB1 d t (by omega) hd hk hE
    have HLV := Lib.hid (lineV_next h0 s.data.toList)
    clear h hE h0
    go_enter Tryz.func19, Tryz.ntmps19
    go_upto_region 4 with (go_at_call 42; refine HT.out.mono ?_; rintro e w' ⟨r, rfl, hr1, hr2, rfl⟩)
    obtain ⟨d, hd⟩ : ∃ d, (s.data.toList.takeWhile (· == 32)).length = d := ⟨_, rfl⟩
    have hdr : d + r.size = s.size := by
      have h1 := congrArg List.length hr1
      have h2 : (s.data.toList.takeWhile (· == 32)).length ≤ s.data.toList.length := (List.takeWhile_sublist _).length_le
      unfold behindB at h1
      rw [List.length_drop, toList_eq, toList_eq, hd] at h1
      rw [toList_eq, hd] at h2
      omega
    have hwr : IntKind.i64.wrap ((s.size : Int) - (r.size : Int)) = (d : Int) := by rw [IntWalk.i64_in _ (by omega)]; omega
    have HL2 : Hid (lineV st s.data.toList = (match r.data.toList with
      | 46 :: t => propP st d t
      | 62 :: t => refP st d t
      | r => nodeP st d r)) := Lib.hid (by rw [HLV.out, ← hr1, hd])
    have HC1 := Lib.hid (pre_any r ⟨#[46]⟩ w)
    have HC2 := Lib.hid (pre_any r ⟨#[62]⟩ w)
    clear HLV hr1 hd
    go_wp2_with fail
    refine HC1.out.mono ?_
    rintro e w1 ⟨t, rfl, ht1, ht2, rfl⟩
    by_cases hp : r.data.toList.take 1 = [46]
    · have hdc : decide (r.data.toList.take (⟨#[46]⟩ : ByteArray).size = (⟨#[46]⟩ : ByteArray).data.toList) = true := decide_eq_true hp
      rw [hdc]
      have HTL : Hid (lineV st s.data.toList = propP st d t.data.toList) := Lib.hid (by
        rw [HL2.out, take1 hp, ht1 hp]; rfl)
      have HG := Lib.hid (HPP.out d t (by omega))
      clear hdc ht1 hp
      go_wp2_with fail
      refine HG.out.mono ?_
      rintro e w' ⟨rfl, h1, h2⟩
      go_wp2_with fail
      go_ret
      rw [HTL.out]
      exact ⟨rfl, h1, h2⟩
    · have hdc : decide (r.data.toList.take (⟨#[46]⟩ : ByteArray).size = (⟨#[46]⟩ : ByteArray).data.toList) = false := decide_eq_false hp
      rw [hdc]
      have HNP := Lib.hid hp
      clear hdc ht1 hp
      go_wp2_with fail
      refine HC2.out.mono ?_
      rintro e w1 ⟨t2, rfl, ht1, ht3, rfl⟩
      by_cases hp : r.data.toList.take 1 = [62]
      · have hdc : decide (r.data.toList.take (⟨#[62]⟩ : ByteArray).size = (⟨#[62]⟩ : ByteArray).data.toList) = true := decide_eq_true hp
        rw [hdc]
        have HTL : Hid (lineV st s.data.toList = refP st d t2.data.toList) := Lib.hid (by
          rw [HL2.out, take1 hp, ht1 hp]; rfl)
        have HG := Lib.hid (HPR.out d t2 (by omega))
        clear hdc ht1 hp
        go_wp2_with fail
        refine HG.out.mono ?_
        rintro e w' ⟨rfl, h1, h2⟩
        go_wp2_with fail
        go_ret
        rw [HTL.out]
        exact ⟨rfl, h1, h2⟩
      · have hdc : decide (r.data.toList.take (⟨#[62]⟩ : ByteArray).size = (⟨#[62]⟩ : ByteArray).data.toList) = false := decide_eq_false hp
        rw [hdc]
        have HTL : Hid (lineV st s.data.toList = nodeP st d r.data.toList) := Lib.hid (by
          rw [HL2.out]
          split
          · rename_i heq; rw [heq] at HNP; exact absurd rfl HNP.out
          · rename_i heq; rw [heq] at hp; exact absurd rfl hp
          · rfl)
        have HG := Lib.hid (HPN.out d r (by omega) (by omega))
        clear hdc ht1 hp
        go_wp2_with fail
        refine HG.out.mono ?_
        rintro e w' ⟨rfl, h1, h2⟩
        go_wp2_with fail
        go_ret
        rw [HTL.out]
        exact ⟨rfl, h1, h2⟩
end Go.Proofs.YtjjlofaejpnnnaaGreatDoor

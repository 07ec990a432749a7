/-
  WALK over the document's own answers: Scan.
-/
import Derived.Test.YtckfcpiedainfaaGreatDoorZE43
namespace Go.Proofs.YtckfcpiedainfaaGreatDoor
open Go Go.RowKit
set_option linter.unusedVariables false
theorem refScan_long (s : ByteArray) (w : World) (hs : s.size ≤ 140737488355328) (h : 4096 < s.size) : Calls Tryz.prog 20 #[.string s] w (ScanPost w (scanR s.data.toList)) := by
  have hr : scanR s.data.toList = ([], 0, 3) := by unfold scanR; rw [if_pos (by rw [toList_eq]; exact h)]
  have d1 : decide ((4096 : Int) < (s.size : Int)) = true := by simp; omega
  rw [hr]
  clear hr
  go_enter Tryz.func20, Tryz.ntmps20
  go_wp2_with fail
  go_ret3
  exact ⟨_, rfl, OwnT.nil _ _, Below.refl _ _⟩
/-- whole's answer: this token; none -/
def GotW (w : World) (K : Int) (TX : ByteArray) (NX PX : Int) (e : Ending) (w' : World) : Prop := e = .returned (.tuple #[.agg #[.int .i64 K, .string TX, .int .i64 NX, .int .i64 PX], .bool true]) ∧ Below w.heap.size w w'
def GotN (w : World) (e : Ending) (w' : World) : Prop := ∃ a b c d, e = .returned (.tuple #[.agg #[.int .i64 a, .string b, .int .i64 c, .int .i64 d], .bool false]) ∧ Below w.heap.size w w'
theorem got_w {w w' : World} {K NX PX : Int} {TX : ByteArray} {e : Ending} (h : WholeP w (some ⟨K, TX, NX, PX⟩) e w') : GotW w K TX NX PX e w' := by
  obtain ⟨hb, k, he, hk⟩ := h
  obtain rfl := hk _ rfl
  exact ⟨he, hb⟩
theorem got_n {w w' : World} {e : Ending} (h : WholeP w none e w') : GotN w e w' := by
  obtain ⟨hb, k, he, _⟩ := h
  exact ⟨_, _, _, _, he, hb⟩
/-- so far, blanks ahead -/
structure Ahead (S : List UInt8) (acc : List Tok) (p : Nat) : Prop where
  le : p ≤ S.length
  at_ : ScanAt S acc (p + past (S.drop p))
theorem Ahead.start (S : List UInt8) : Ahead S [] 0 := ⟨Nat.zero_le _, ScanAt.start S⟩
theorem past_at {S : List UInt8} {k q : Nat} {c : UInt8} {t : List UInt8} (hd : S.drop k = c :: t) (h : k + past (S.drop k) = q) (hb : blank c = true) : (k + 1) + past (S.drop (k + 1)) = q := by
  have : S.drop (k + 1) = t := by rw [← List.drop_drop, hd]; rfl
  rw [this]
  rw [hd, past_blank hb] at h
  omega
theorem past_here {S : List UInt8} {k q : Nat} {c : UInt8} {t : List UInt8} (hd : S.drop k = c :: t) (h : k + past (S.drop k) = q) (hb : blank c = false) : q = k := by
  rw [hd, past_other hb] at h
  omega
theorem past_over {S : List UInt8} {k q : Nat} (hk : S.length ≤ k) (h : k + past (S.drop k) = q) : q = k := by
  rw [List.drop_eq_nil_of_le hk, past_nil] at h
  omega
theorem blank_of {c : UInt8} (h : ((c.toNat : Int) == 32) = true ∨ ((c.toNat : Int) == 10) = true) : blank c = true := by
  unfold blank
  rcases h with h | h
  · have : c = 32 := UInt8.toNat_inj.1 (by have := beq_iff_eq.1 h; show c.toNat = 32; omega)
    rw [this]; rfl
  · have : c = 10 := UInt8.toNat_inj.1 (by have := beq_iff_eq.1 h; show c.toNat = 10; omega)
    rw [this]; rfl
theorem not_blank {c : UInt8} (h1 : ((c.toNat : Int) == 32) = false) (h2 : ((c.toNat : Int) == 10) = false) : blank c = false := by
  unfold blank
  have a : (c == 32) = false := by rw [beq_eq_false_iff_ne] at h1 ⊢; rintro rfl; exact h1 rfl
  have b : (c == 10) = false := by rw [beq_eq_false_iff_ne] at h2 ⊢; rintro rfl; exact h2 rfl
  rw [a, b]; rfl
theorem lex_text {r t : List UInt8} (h : r = 34 :: t) : lexT r = textT t := by
  rw [← refT_eq r (by rw [h]; simp), h]; rfl
theorem lex_rest {r t : List UInt8} {c : UInt8} {n : Nat} (h : r = c :: t) (hc : c ≠ 34) (hf : far begR r = n) : lexT r = restR r n := by
  rw [← refT_eq r (by rw [h]; simp)]
  unfold refT
  rw [h] at hf ⊢
  rw [if_neg (by simp; exact hc), hf]
theorem rest_none {r : List UInt8} {n : Nat} (h : wholeR (r.take n) = none) : restR r n = (none, n) := by unfold restR; rw [h]
theorem rest_more {r : List UInt8} {n : Nat} {k : Tok} (h : wholeR (r.take n) = some k) (hk : k.kind ≠ 5) (ha : apart (r.drop n) = false) : restR r n = (none, n) := by unfold restR; rw [h]; simp [hk, ha]
theorem rest_yes {r : List UInt8} {n : Nat} {k : Tok} (h : wholeR (r.take n) = some k) (hk : k.kind = 5 ∨ apart (r.drop n) = true) : restR r n = (some k, n) := by
  unfold restR; rw [h]
  rcases hk with hk | hk <;> simp [hk]
theorem Ahead.tok {S : List UInt8} {acc : List Tok} {p n : Nat} {k : Tok} (h : ScanAt S acc p) (hp : p < S.length) (hk : lexT (S.drop p) = (some k, n)) : Ahead S (acc ++ [k.at p]) (p + n) :=
  ⟨(h.tok hp hk).1, (h.tok hp hk).2⟩
theorem tok_set3 {Y : World} {g : Nat} {a b c d u : Value} (h : Blk Y g 80 #[a, b, c, d]) : Blk (Y.setCell ⟨g, 3, none⟩ u) g 80 #[a, b, c, u] := h.set_ 3 u
set_option maxRecDepth 100000 in
set_option maxHeartbeats 12800000 in
theorem refScan_short (s : ByteArray) (w : World) (hs : s.size ≤ 4096) : Calls Tryz.prog 20 #[.string s] w (ScanPost w (scanR s.data.toList)) := by
  have hsz := toList_eq s
  have HB : Hid (∀ x : ByteArray, x.size ≤ 4096 → ∀ Y, Calls Tryz.prog 36 #[.string x] Y (Tells1 Y (begR x.data.toList))) := Lib.hid fun x hx Y => refBegins_any x Y (by unfold maxLen; omega)
  have HW : Hid (∀ x : ByteArray, x.size ≤ 4096 → ∀ Y, Calls Tryz.prog 37 #[.string x] Y (WholeP Y (wholeR x.data.toList))) := Lib.hid fun x hx Y => refWhole_any x Y (by unfold maxLen; omega)
  have HU : Hid (∀ (t : Nat) Y, Calls Tryz.prog 35 #[.string s, .int .i64 t] Y (Unq Y (unq s t))) := Lib.hid fun t Y => refUnquote_any s t Y (by omega)
  have d1 : decide ((4096 : Int) < (s.size : Int)) = false := by simp; omega
  go_enter Tryz.func20, Tryz.ntmps20
  go_wp2_with fail
  go_loopw [5, 6] (fun v i wr => ∃ (acc : List Tok) (p : Nat), i = .int .i64 p ∧ Ahead s.data.toList acc p ∧ OwnT wr w.heap.size v acc ∧ Below w.heap.size w wr) (fun _ i _ => s.size - (intOf i).toNat)
  case atStart => exact ⟨[], 0, rfl, Ahead.start _, OwnT.nil _ _, Below.refl _ _⟩
  case round =>
    obtain ⟨acc, p, rfl, hA, hown, hb⟩ := hrel
    obtain ⟨wo, hwo⟩ : ∃ wo : World, wo = wr := ⟨_, rfl⟩
    rw [← hwo] at hown hb
    rw [← hwo]
    clear hwo
    have hple := hA.le
    rw [hsz] at hple
    obtain ⟨q, hq⟩ : ∃ q, p + past (s.data.toList.drop p) = q := ⟨_, rfl⟩
    have HS := hA.at_
    rw [hq] at HS
    have HS := Lib.hid HS
    have HQ := Lib.hid hq
    obtain ⟨A, cc, hvA⟩ := own_form hown
    subst hvA
    have HO := Lib.hid hown
    have HBo := Lib.hid hb
    clear hown hb hA hq
    go_wp2_with fail
    go_loop [6] (fun i => ∃ k : Nat, i = .int .i64 k ∧ p ≤ k ∧ k ≤ s.size ∧ Hid (k + past (s.data.toList.drop k) = q)) (fun i => s.size - (intOf i).toNat)
    case atStart => exact ⟨p, rfl, Nat.le_refl _, hple, HQ⟩
    case round =>
      obtain ⟨k, rfl, hpk, hks, HK⟩ := hrel
      by_cases hlt : k < s.size
      · have HD := Lib.hid (drop_get s k hlt)
        cases b32 : ((s[k].toNat : Int) == 32) with
        | true =>
          have HK' := Lib.hid (past_at HD.out HK.out (blank_of (.inl b32)))
          go_wp2_with fail
          go_round
          case rel => exact ⟨k + 1, by go_num, by omega, by omega, HK'⟩
          case measure => simp [intOf]; omega
        | false =>
          cases b10 : ((s[k].toNat : Int) == 10) with
          | true =>
            have HK' := Lib.hid (past_at HD.out HK.out (blank_of (.inr b10)))
            go_wp2_with fail
            go_round
            case rel => exact ⟨k + 1, by go_num, by omega, by omega, HK'⟩
            case measure => simp [intOf]; omega
          | false =>
            have hqk := past_here HD.out HK.out (not_blank b32 b10)
            subst hqk
            have hne : ((q : Int) == (s.size : Int)) = false := by rw [beq_eq_false_iff_ne]; omega
            cases b34 : ((s[q].toNat : Int) == 34) with
            | true =>
              have hc34 : s[q] = 34 := UInt8.toNat_inj.1 (by have := beq_iff_eq.1 b34; show s[q].toNat = 34; omega)
              have hD := HD.out
              rw [hc34] at hD
              have hu := unq_quote hD
              have hlx := lex_text hD
              unfold textT at hlx
              rcases hsc : scanL (s.data.toList.drop (q + 1)) with ⟨o, m⟩
              rw [hsc] at hu hlx
              cases o with
              | some L =>
                have HUQ : Hid (∀ Y, Calls Tryz.prog 35 #[.string s, .int .i64 q] Y (fun e w' => e = .returned (.tuple #[.string (ba L), .int .i64 ((q + 1 + m : Nat) : Int), .int .i64 0]) ∧ Below Y.heap.size Y w')) := Lib.hid fun Y => by
                  have := HU.out q Y
                  rw [hu] at this
                  exact this
                have hA := Ahead.tok HS.out (by rw [hsz]; exact hlt) hlx
                rw [show q + (m + 1) = q + 1 + m by omega] at hA
                have hA1 := hA.le
                rw [hsz] at hA1
                have HA := Lib.hid hA
                clear hA hu hlx hsc hD hc34
                go_wp2_with (first | (go_at_call 35; go_must (refine (HUQ.out _).mono ?_; rintro e w5 ⟨rfl, hb5⟩; have HB5 := Lib.hid (HBo.out.trans (hb5.mono HBo.out.size)); have HO5 := Lib.hid (own_after HO.out hb5); clear hb5)) | (at_builtin; (with_reducible show wpList _ _ _ (Oper.mk _ (Op.call ⟨_, _, #[41, 41]⟩) _ _ _ _ :: _) _ _); go_must (refine app_tok rfl _ _ rfl w.heap.size _ acc rfl (OwnT.alloc HO5.out _) ⟨2, ba L, 0, q⟩ _ rfl (Blk.new' (by simp)) (by have := HS.out.few; omega) (by have := HB5.out.size; simp at this ⊢; omega) ?_; intro v9 w9 hown9 hg9 hb9; have HO9 := Lib.hid hown9; have HB9 := Lib.hid ((HB5.out.alloc HB5.out.size _).trans hb9); clear hown9 hg9 hb9)))
                exact ⟨⟨acc ++ [⟨2, ba L, 0, q⟩], q + 1 + m, by first | rfl | go_num, HA.out, HO9.out, HB9.out⟩, by simp [intOf]; omega⟩
              | none =>
                have HUQ : Hid (∀ Y, Calls Tryz.prog 35 #[.string s, .int .i64 q] Y (fun e w' => e = .returned (.tuple #[.string (ba []), .int .i64 ((q + 1 + m : Nat) : Int), .int .i64 10]) ∧ Below Y.heap.size Y w')) := Lib.hid fun Y => by
                  have := HU.out q Y
                  rw [hu] at this
                  exact this
                have hX := HS.out.bad (by rw [hsz]; exact hlt) hlx (by rw [hsz]; exact hs)
                rw [show q + (m + 1) = q + 1 + m by omega] at hX
                have HX := Lib.hid hX
                clear hX hu hlx hsc hD hc34
                go_wp2_with (go_at_call 35; go_must (refine (HUQ.out _).mono ?_; rintro e w5 ⟨rfl, hb5⟩; have HB5 := Lib.hid (HBo.out.trans (hb5.mono HBo.out.size)); have HO5 := Lib.hid (own_after HO.out hb5); clear hb5))
                go_ret3
                rw [HX.out]
                exact ⟨_, by first | rfl | (simp; done), OwnT.nil _ _, HB5.out⟩
            | false =>
              have h34 : s[q] ≠ 34 := fun h => by rw [h] at b34; exact absurd b34 (by decide)
              obtain ⟨Fr, hFr⟩ : ∃ F, far begR (s.data.toList.drop q) = F := ⟨_, rfl⟩
              have HFF := Lib.hid hFr
              have HF0 : Hid (farN begR (s.data.toList.drop q) 0 = Fr) := Lib.hid hFr
              clear hFr
              have hRl : (s.data.toList.drop q).length = s.size - q := by rw [List.length_drop, hsz]
              go_wp2_with fail
              go_loopw [10] (fun nn wr => ∃ m : Nat, nn = .int .i64 m ∧ q + m ≤ s.size ∧ Hid (farN begR (s.data.toList.drop q) m = Fr) ∧ OwnT wr w.heap.size (.slice A acc.length cc) acc ∧ Below w.heap.size w wr) (fun nn _ => s.size - (intOf nn).toNat)
              case atStart => exact ⟨0, rfl, by omega, HF0, HO.out, HBo.out⟩
              case round =>
                obtain ⟨m, rfl, hqm, HF, hor, hbr⟩ := hrel
                have HOr := Lib.hid hor
                have HBr := Lib.hid hbr
                by_cases hl2 : q + m < s.size
                · have hbx : (s.extract q (q + m + 1)).data.toList = (s.data.toList.drop q).take (m + 1) := by rw [Lib.extract_data, show q + m + 1 - q = m + 1 by omega]
                  have hbs : (s.extract q (q + m + 1)).size ≤ 4096 := by rw [← toList_eq, hbx, List.length_take, hRl]; omega
                  have HBG0 := HB.out _ hbs
                  rw [hbx] at HBG0
                  clear hor hbr
                  cases hbg : begR ((s.data.toList.drop q).take (m + 1)) with
                  | true =>
                    rw [hbg] at HBG0
                    have HBG := Lib.hid HBG0
                    have HF' := Lib.hid ((farN_go (by rw [hRl]; omega) hbg).symm.trans HF.out)
                    clear HBG0 hbg hbx
                    go_wp2_with (go_at_call 36; go_must (refine (HBG.out _).mono ?_; rintro e w4 ⟨rfl, hb4⟩; have HBm := Lib.hid (HBr.out.trans (hb4.mono HBr.out.size)); have HOm := Lib.hid (own_after HOr.out hb4); clear hb4))
                    exact ⟨⟨m + 1, by go_num, by omega, HF', HOm.out, HBm.out⟩, by simp [intOf]; omega⟩
                  | false =>
                    rw [hbg] at HBG0
                    have HBG := Lib.hid HBG0
                    have hfar : far begR (s.data.toList.drop q) = m := by rw [HFF.out, ← HF.out]; exact farN_no hbg
                    clear HBG0 hbg hbx
                    have hex : (s.data.toList.drop q).take m = (s.extract q (q + m)).data.toList := by rw [Lib.extract_data, show q + m - q = m by omega]
                    have hexs : (s.extract q (q + m)).size ≤ 4096 := by rw [← toList_eq, Lib.extract_data, List.length_take, List.length_drop, toList_eq]; omega
                    have HWX := HW.out (s.extract q (q + m)) hexs
                    rw [← hex] at HWX
                    have hrest := lex_rest (n := m) HD.out h34 hfar
                    obtain ⟨x, hx⟩ : ∃ x, wholeR ((s.data.toList.drop q).take m) = x := ⟨_, rfl⟩
                    rw [hx] at HWX
                    clear hfar
                    cases x with
                    | none =>
                      have HWG : Hid (∀ Y, Calls Tryz.prog 37 #[.string (s.extract q (q + m))] Y (GotN Y)) := Lib.hid fun Y => (HWX Y).mono fun e w' h => got_n h
                      have HX := Lib.hid (HS.out.bad (by rw [hsz]; exact hlt) (hrest.trans (rest_none hx)) (by rw [hsz]; exact hs))
                      clear HWX hrest hx hex
                      go_wp2_with (first | (go_at_call 36; go_must (refine (HBG.out _).mono ?_; rintro e w4 ⟨rfl, hb4⟩; have HBm := Lib.hid (HBr.out.trans (hb4.mono HBr.out.size)); have HOm := Lib.hid (own_after HOr.out hb4); clear hb4)) | (go_at_call 37; go_must (refine (HWG.out _).mono ?_; rintro e w5 ⟨ka, kb, kc, kd, rfl, hb5⟩; have HB5 := Lib.hid (HBm.out.trans (hb5.mono HBm.out.size)); clear hb5)) | ((with_reducible show wpList _ _ _ (Oper.mk _ (Op.store 80 _ _) _ _ _ _ :: _) _ _); refine wpList_store_row rfl _ _ _ rfl w5.heap.size _ rfl rfl 80 tok0 (Blk.new w5 _ _) infoTok rfl (one_tok _ _ _ _) ?_; rw [World.setRow_alloc_new]; obtain ⟨Z, hZ⟩ : ∃ Z, w5.alloc (.cells #[.int .i64 ka, .string kb, .int .i64 kc, .int .i64 kd] 80) = Z := ⟨_, rfl⟩; have HZB : Hid (Blk Z w5.heap.size 80 #[.int .i64 ka, .string kb, .int .i64 kc, .int .i64 kd]) := Lib.hid (by rw [← hZ]; exact Blk.new w5 _ _); have HZ : Hid (Below w5.heap.size w5 Z) := Lib.hid (by rw [← hZ]; exact (Below.refl _ _).alloc (Nat.le_refl _) _); have z0 : Z.cell? ⟨w5.heap.size, 0, none⟩ = some (.int .i64 ka) := HZB.out.cell 0; have z3 : Z.cell? ⟨w5.heap.size, 3, none⟩ = some (.int .i64 kd) := HZB.out.cell 3; have f3 := HZB.out.frozen 3))
                      go_ret3
                      rw [HX.out]
                      exact ⟨_, by first | rfl | (simp; done), OwnT.nil _ _, HB5.out.trans (HZ.out.mono HB5.out.size)⟩
                    | some kx =>
                      obtain ⟨K, TX, NX, PX⟩ := kx
                      have HWG : Hid (∀ Y, Calls Tryz.prog 37 #[.string (s.extract q (q + m))] Y (GotW Y K TX NX PX)) := Lib.hid fun Y => (HWX Y).mono fun e w' h => got_w h
                      have hpos : 0 < m := by
                        rcases Nat.eq_zero_or_pos m with h0 | h0
                        · rw [h0, List.take_zero] at hx
                          have : wholeR [] = none := by decide
                          rw [this] at hx
                          cases hx
                        · exact h0
                      by_cases hk5 : K = 5
                      · subst hk5
                        have HA := Lib.hid (Ahead.tok HS.out (by rw [hsz]; exact hlt) (hrest.trans (rest_yes hx (.inl rfl))))
                        clear hrest hx hex HWX 
                        go_wp2_with (first | (go_at_call 36; go_must (refine (HBG.out _).mono ?_; rintro e w4 ⟨rfl, hb4⟩; have HBm := Lib.hid (HBr.out.trans (hb4.mono HBr.out.size)); have HOm := Lib.hid (own_after HOr.out hb4); clear hb4)) | (go_at_call 37; go_must (refine (HWG.out _).mono ?_; rintro e w5 ⟨rfl, hb5⟩; have HB5 := Lib.hid (HBm.out.trans (hb5.mono HBm.out.size)); have HO5 := Lib.hid (own_after HOm.out hb5); clear hb5)) | ((with_reducible show wpList _ _ _ (Oper.mk _ (Op.store 80 _ _) _ _ _ _ :: _) _ _); refine wpList_store_row rfl _ _ _ rfl w5.heap.size _ rfl rfl 80 tok0 (Blk.new w5 _ _) infoTok rfl (one_tok _ _ _ _) ?_; rw [World.setRow_alloc_new]; obtain ⟨Z, hZ⟩ : ∃ Z, w5.alloc (.cells #[.int .i64 5, .string TX, .int .i64 NX, .int .i64 PX] 80) = Z := ⟨_, rfl⟩; have HZB : Hid (Blk Z w5.heap.size 80 #[.int .i64 5, .string TX, .int .i64 NX, .int .i64 PX]) := Lib.hid (by rw [← hZ]; exact Blk.new w5 _ _); have HZ : Hid (Below w5.heap.size w5 Z) := Lib.hid (by rw [← hZ]; exact (Below.refl _ _).alloc (Nat.le_refl _) _); have z0 : Z.cell? ⟨w5.heap.size, 0, none⟩ = some (.int .i64 5) := HZB.out.cell 0; have z3 : Z.cell? ⟨w5.heap.size, 3, none⟩ = some (.int .i64 PX) := HZB.out.cell 3; have f3 := HZB.out.frozen 3) | ((with_reducible show wpList _ _ _ (Oper.mk _ (Op.load 80 _) _ _ _ _ :: _) _ _); refine wpList_load_row rfl _ _ rfl w5.heap.size rfl _ _ _ _ (tok_set3 (u := .int .i64 q) HZB.out) Tryz.underlying80 rfl infoTok ?_) | (at_builtin; (with_reducible show wpList _ _ _ (Oper.mk _ (Op.call ⟨_, _, #[41, 41]⟩) _ _ _ _ :: _) _ _); go_must (refine app_tok rfl _ _ rfl w.heap.size _ acc rfl (OwnT.alloc (own_after HO5.out (HZ.out.setCell (p := ⟨w5.heap.size, 3, none⟩) (Nat.le_refl _) (.int .i64 q))) _) ⟨5, TX, NX, q⟩ _ rfl (Blk.new' (by simp)) (by have := HS.out.few; omega) (by have := (HB5.out.trans ((HZ.out.setCell (p := ⟨w5.heap.size, 3, none⟩) (Nat.le_refl _) (.int .i64 q)).mono HB5.out.size)).size; simp at this ⊢; omega) ?_; intro v9 w9 hown9 hg9 hb9; have HO9 := Lib.hid hown9; have HB9 := Lib.hid (((HB5.out.trans ((HZ.out.setCell (p := ⟨w5.heap.size, 3, none⟩) (Nat.le_refl _) (.int .i64 q)).mono HB5.out.size)).alloc (HB5.out.trans ((HZ.out.setCell (p := ⟨w5.heap.size, 3, none⟩) (Nat.le_refl _) (.int .i64 q)).mono HB5.out.size)).size _).trans hb9); clear hown9 hg9 hb9)))
                        exact ⟨⟨acc ++ [⟨5, TX, NX, q⟩], q + m, by go_num, HA.out, HO9.out, HB9.out⟩, by simp [intOf]; omega⟩
                      · have b5 : (K != 5) = true := by rw [bne_iff_ne]; exact hk5
                        cases hin : innC s[q + m] with
                        | true =>
                          have HMO : Hid (∀ Y, Calls Tryz.prog 38 #[.int .u8 s[q + m].toNat] Y (Tells1 Y true)) := Lib.hid fun Y => by rw [← hin]; exact refMore_any _ Y
                          have hap : apart ((s.data.toList.drop q).drop m) = false := by rw [List.drop_drop, drop_get s (q + m) hl2]; show (!innC _) = false; rw [hin]; rfl
                          have HX := Lib.hid (HS.out.bad (by rw [hsz]; exact hlt) (hrest.trans (rest_more hx hk5 hap)) (by rw [hsz]; exact hs))
                          clear HWX hrest hx hex hin hap
                          go_wp2_with (first | (go_at_call 36; go_must (refine (HBG.out _).mono ?_; rintro e w4 ⟨rfl, hb4⟩; have HBm := Lib.hid (HBr.out.trans (hb4.mono HBr.out.size)); have HOm := Lib.hid (own_after HOr.out hb4); clear hb4)) | (go_at_call 37; go_must (refine (HWG.out _).mono ?_; rintro e w5 ⟨rfl, hb5⟩; have HB5 := Lib.hid (HBm.out.trans (hb5.mono HBm.out.size)); have HO5 := Lib.hid (own_after HOm.out hb5); clear hb5)) | ((with_reducible show wpList _ _ _ (Oper.mk _ (Op.store 80 _ _) _ _ _ _ :: _) _ _); refine wpList_store_row rfl _ _ _ rfl w5.heap.size _ rfl rfl 80 tok0 (Blk.new w5 _ _) infoTok rfl (one_tok _ _ _ _) ?_; rw [World.setRow_alloc_new]; obtain ⟨Z, hZ⟩ : ∃ Z, w5.alloc (.cells #[.int .i64 K, .string TX, .int .i64 NX, .int .i64 PX] 80) = Z := ⟨_, rfl⟩; have HZB : Hid (Blk Z w5.heap.size 80 #[.int .i64 K, .string TX, .int .i64 NX, .int .i64 PX]) := Lib.hid (by rw [← hZ]; exact Blk.new w5 _ _); have HZ : Hid (Below w5.heap.size w5 Z) := Lib.hid (by rw [← hZ]; exact (Below.refl _ _).alloc (Nat.le_refl _) _); have z0 : Z.cell? ⟨w5.heap.size, 0, none⟩ = some (.int .i64 K) := HZB.out.cell 0; have z3 : Z.cell? ⟨w5.heap.size, 3, none⟩ = some (.int .i64 PX) := HZB.out.cell 3; have f3 := HZB.out.frozen 3) | (go_at_call 38; go_must (refine (HMO.out _).mono ?_; rintro e w6 ⟨rfl, hb6⟩; have HZ6 := Lib.hid (HZ.out.trans (hb6.mono HZ.out.size)); have HZB6 := Lib.hid (HZB.out.after hb6); have y3 : w6.cell? ⟨w5.heap.size, 3, none⟩ = some (.int .i64 PX) := HZB6.out.cell 3; have y0 : w6.cell? ⟨w5.heap.size, 0, none⟩ = some (.int .i64 K) := HZB6.out.cell 0; have e3 := HZB6.out.frozen 3; clear hb6)))
                          go_ret3
                          rw [HX.out]
                          exact ⟨_, by first | rfl | (simp; done), OwnT.nil _ _, HB5.out.trans (HZ6.out.mono HB5.out.size)⟩
                        | false =>
                          have HMO : Hid (∀ Y, Calls Tryz.prog 38 #[.int .u8 s[q + m].toNat] Y (Tells1 Y false)) := Lib.hid fun Y => by rw [← hin]; exact refMore_any _ Y
                          have hap : apart ((s.data.toList.drop q).drop m) = true := by rw [List.drop_drop, drop_get s (q + m) hl2]; show (!innC _) = true; rw [hin]; rfl
                          have HA := Lib.hid (Ahead.tok HS.out (by rw [hsz]; exact hlt) (hrest.trans (rest_yes hx (.inr hap))))
                          clear hrest hx hex HWX hin hap
                          go_wp2_with (first | (go_at_call 36; go_must (refine (HBG.out _).mono ?_; rintro e w4 ⟨rfl, hb4⟩; have HBm := Lib.hid (HBr.out.trans (hb4.mono HBr.out.size)); have HOm := Lib.hid (own_after HOr.out hb4); clear hb4)) | (go_at_call 37; go_must (refine (HWG.out _).mono ?_; rintro e w5 ⟨rfl, hb5⟩; have HB5 := Lib.hid (HBm.out.trans (hb5.mono HBm.out.size)); have HO5 := Lib.hid (own_after HOm.out hb5); clear hb5)) | ((with_reducible show wpList _ _ _ (Oper.mk _ (Op.store 80 _ _) _ _ _ _ :: _) _ _); refine wpList_store_row rfl _ _ _ rfl w5.heap.size _ rfl rfl 80 tok0 (Blk.new w5 _ _) infoTok rfl (one_tok _ _ _ _) ?_; rw [World.setRow_alloc_new]; obtain ⟨Z, hZ⟩ : ∃ Z, w5.alloc (.cells #[.int .i64 K, .string TX, .int .i64 NX, .int .i64 PX] 80) = Z := ⟨_, rfl⟩; have HZB : Hid (Blk Z w5.heap.size 80 #[.int .i64 K, .string TX, .int .i64 NX, .int .i64 PX]) := Lib.hid (by rw [← hZ]; exact Blk.new w5 _ _); have HZ : Hid (Below w5.heap.size w5 Z) := Lib.hid (by rw [← hZ]; exact (Below.refl _ _).alloc (Nat.le_refl _) _); have z0 : Z.cell? ⟨w5.heap.size, 0, none⟩ = some (.int .i64 K) := HZB.out.cell 0; have z3 : Z.cell? ⟨w5.heap.size, 3, none⟩ = some (.int .i64 PX) := HZB.out.cell 3; have f3 := HZB.out.frozen 3) | (go_at_call 38; go_must (refine (HMO.out _).mono ?_; rintro e w6 ⟨rfl, hb6⟩; have HZ6 := Lib.hid (HZ.out.trans (hb6.mono HZ.out.size)); have HZB6 := Lib.hid (HZB.out.after hb6); have y3 : w6.cell? ⟨w5.heap.size, 3, none⟩ = some (.int .i64 PX) := HZB6.out.cell 3; have y0 : w6.cell? ⟨w5.heap.size, 0, none⟩ = some (.int .i64 K) := HZB6.out.cell 0; have e3 := HZB6.out.frozen 3; clear hb6)) | ((with_reducible show wpList _ _ _ (Oper.mk _ (Op.load 80 _) _ _ _ _ :: _) _ _); refine wpList_load_row rfl _ _ rfl w5.heap.size rfl _ _ _ _ (tok_set3 (u := .int .i64 q) HZB6.out) Tryz.underlying80 rfl infoTok ?_) | (at_builtin; (with_reducible show wpList _ _ _ (Oper.mk _ (Op.call ⟨_, _, #[41, 41]⟩) _ _ _ _ :: _) _ _); go_must (refine app_tok rfl _ _ rfl w.heap.size _ acc rfl (OwnT.alloc (own_after HO5.out (HZ6.out.setCell (p := ⟨w5.heap.size, 3, none⟩) (Nat.le_refl _) (.int .i64 q))) _) ⟨K, TX, NX, q⟩ _ rfl (Blk.new' (by simp)) (by have := HS.out.few; omega) (by have := (HB5.out.trans ((HZ6.out.setCell (p := ⟨w5.heap.size, 3, none⟩) (Nat.le_refl _) (.int .i64 q)).mono HB5.out.size)).size; simp at this ⊢; omega) ?_; intro v9 w9 hown9 hg9 hb9; have HO9 := Lib.hid hown9; have HB9 := Lib.hid (((HB5.out.trans ((HZ6.out.setCell (p := ⟨w5.heap.size, 3, none⟩) (Nat.le_refl _) (.int .i64 q)).mono HB5.out.size)).alloc (HB5.out.trans ((HZ6.out.setCell (p := ⟨w5.heap.size, 3, none⟩) (Nat.le_refl _) (.int .i64 q)).mono HB5.out.size)).size _).trans hb9); clear hown9 hg9 hb9)))
                          exact ⟨⟨acc ++ [⟨K, TX, NX, q⟩], q + m, by go_num, HA.out, HO9.out, HB9.out⟩, by simp [intOf]; omega⟩
                · have HBm := HBr
                  have HOm := HOr
                  have hfar : far begR (s.data.toList.drop q) = m := by rw [HFF.out, ← HF.out]; exact farN_end (by rw [hRl]; omega)
                  clear hor hbr
                  have hex : (s.data.toList.drop q).take m = (s.extract q (q + m)).data.toList := by rw [Lib.extract_data, show q + m - q = m by omega]
                  have hexs : (s.extract q (q + m)).size ≤ 4096 := by rw [← toList_eq, Lib.extract_data, List.length_take, List.length_drop, toList_eq]; omega
                  have HWX := HW.out (s.extract q (q + m)) hexs
                  rw [← hex] at HWX
                  have hrest := lex_rest (n := m) HD.out h34 hfar
                  obtain ⟨x, hx⟩ : ∃ x, wholeR ((s.data.toList.drop q).take m) = x := ⟨_, rfl⟩
                  rw [hx] at HWX
                  clear hfar
                  cases x with
                  | none =>
                    have HWG : Hid (∀ Y, Calls Tryz.prog 37 #[.string (s.extract q (q + m))] Y (GotN Y)) := Lib.hid fun Y => (HWX Y).mono fun e w' h => got_n h
                    have HX := Lib.hid (HS.out.bad (by rw [hsz]; exact hlt) (hrest.trans (rest_none hx)) (by rw [hsz]; exact hs))
                    clear HWX hrest hx hex
                    go_wp2_with (first | (go_at_call 37; go_must (refine (HWG.out _).mono ?_; rintro e w5 ⟨ka, kb, kc, kd, rfl, hb5⟩; have HB5 := Lib.hid (HBm.out.trans (hb5.mono HBm.out.size)); clear hb5)) | ((with_reducible show wpList _ _ _ (Oper.mk _ (Op.store 80 _ _) _ _ _ _ :: _) _ _); refine wpList_store_row rfl _ _ _ rfl w5.heap.size _ rfl rfl 80 tok0 (Blk.new w5 _ _) infoTok rfl (one_tok _ _ _ _) ?_; rw [World.setRow_alloc_new]; obtain ⟨Z, hZ⟩ : ∃ Z, w5.alloc (.cells #[.int .i64 ka, .string kb, .int .i64 kc, .int .i64 kd] 80) = Z := ⟨_, rfl⟩; have HZB : Hid (Blk Z w5.heap.size 80 #[.int .i64 ka, .string kb, .int .i64 kc, .int .i64 kd]) := Lib.hid (by rw [← hZ]; exact Blk.new w5 _ _); have HZ : Hid (Below w5.heap.size w5 Z) := Lib.hid (by rw [← hZ]; exact (Below.refl _ _).alloc (Nat.le_refl _) _); have z0 : Z.cell? ⟨w5.heap.size, 0, none⟩ = some (.int .i64 ka) := HZB.out.cell 0; have z3 : Z.cell? ⟨w5.heap.size, 3, none⟩ = some (.int .i64 kd) := HZB.out.cell 3; have f3 := HZB.out.frozen 3))
                    go_ret3
                    rw [HX.out]
                    exact ⟨_, by first | rfl | (simp; done), OwnT.nil _ _, HB5.out.trans (HZ.out.mono HB5.out.size)⟩
                  | some kx =>
                    obtain ⟨K, TX, NX, PX⟩ := kx
                    have HWG : Hid (∀ Y, Calls Tryz.prog 37 #[.string (s.extract q (q + m))] Y (GotW Y K TX NX PX)) := Lib.hid fun Y => (HWX Y).mono fun e w' h => got_w h
                    have hpos : 0 < m := by
                      rcases Nat.eq_zero_or_pos m with h0 | h0
                      · rw [h0, List.take_zero] at hx
                        have : wholeR [] = none := by decide
                        rw [this] at hx
                        cases hx
                      · exact h0
                    by_cases hk5 : K = 5
                    · subst hk5
                      have HA := Lib.hid (Ahead.tok HS.out (by rw [hsz]; exact hlt) (hrest.trans (rest_yes hx (.inl rfl))))
                      clear hrest hx hex HWX 
                      go_wp2_with (first | (go_at_call 37; go_must (refine (HWG.out _).mono ?_; rintro e w5 ⟨rfl, hb5⟩; have HB5 := Lib.hid (HBm.out.trans (hb5.mono HBm.out.size)); have HO5 := Lib.hid (own_after HOm.out hb5); clear hb5)) | ((with_reducible show wpList _ _ _ (Oper.mk _ (Op.store 80 _ _) _ _ _ _ :: _) _ _); refine wpList_store_row rfl _ _ _ rfl w5.heap.size _ rfl rfl 80 tok0 (Blk.new w5 _ _) infoTok rfl (one_tok _ _ _ _) ?_; rw [World.setRow_alloc_new]; obtain ⟨Z, hZ⟩ : ∃ Z, w5.alloc (.cells #[.int .i64 5, .string TX, .int .i64 NX, .int .i64 PX] 80) = Z := ⟨_, rfl⟩; have HZB : Hid (Blk Z w5.heap.size 80 #[.int .i64 5, .string TX, .int .i64 NX, .int .i64 PX]) := Lib.hid (by rw [← hZ]; exact Blk.new w5 _ _); have HZ : Hid (Below w5.heap.size w5 Z) := Lib.hid (by rw [← hZ]; exact (Below.refl _ _).alloc (Nat.le_refl _) _); have z0 : Z.cell? ⟨w5.heap.size, 0, none⟩ = some (.int .i64 5) := HZB.out.cell 0; have z3 : Z.cell? ⟨w5.heap.size, 3, none⟩ = some (.int .i64 PX) := HZB.out.cell 3; have f3 := HZB.out.frozen 3) | ((with_reducible show wpList _ _ _ (Oper.mk _ (Op.load 80 _) _ _ _ _ :: _) _ _); refine wpList_load_row rfl _ _ rfl w5.heap.size rfl _ _ _ _ (tok_set3 (u := .int .i64 q) HZB.out) Tryz.underlying80 rfl infoTok ?_) | (at_builtin; (with_reducible show wpList _ _ _ (Oper.mk _ (Op.call ⟨_, _, #[41, 41]⟩) _ _ _ _ :: _) _ _); go_must (refine app_tok rfl _ _ rfl w.heap.size _ acc rfl (OwnT.alloc (own_after HO5.out (HZ.out.setCell (p := ⟨w5.heap.size, 3, none⟩) (Nat.le_refl _) (.int .i64 q))) _) ⟨5, TX, NX, q⟩ _ rfl (Blk.new' (by simp)) (by have := HS.out.few; omega) (by have := (HB5.out.trans ((HZ.out.setCell (p := ⟨w5.heap.size, 3, none⟩) (Nat.le_refl _) (.int .i64 q)).mono HB5.out.size)).size; simp at this ⊢; omega) ?_; intro v9 w9 hown9 hg9 hb9; have HO9 := Lib.hid hown9; have HB9 := Lib.hid (((HB5.out.trans ((HZ.out.setCell (p := ⟨w5.heap.size, 3, none⟩) (Nat.le_refl _) (.int .i64 q)).mono HB5.out.size)).alloc (HB5.out.trans ((HZ.out.setCell (p := ⟨w5.heap.size, 3, none⟩) (Nat.le_refl _) (.int .i64 q)).mono HB5.out.size)).size _).trans hb9); clear hown9 hg9 hb9)))
                      exact ⟨⟨acc ++ [⟨5, TX, NX, q⟩], q + m, by go_num, HA.out, HO9.out, HB9.out⟩, by simp [intOf]; omega⟩
                    · have b5 : (K != 5) = true := by rw [bne_iff_ne]; exact hk5
                      have hap : apart ((s.data.toList.drop q).drop m) = true := by rw [List.drop_drop, List.drop_eq_nil_of_le (by rw [hsz]; omega)]; rfl
                      have HA := Lib.hid (Ahead.tok HS.out (by rw [hsz]; exact hlt) (hrest.trans (rest_yes hx (.inr hap))))
                      clear hrest hx hex HWX hap
                      go_wp2_with (first | (go_at_call 37; go_must (refine (HWG.out _).mono ?_; rintro e w5 ⟨rfl, hb5⟩; have HB5 := Lib.hid (HBm.out.trans (hb5.mono HBm.out.size)); have HO5 := Lib.hid (own_after HOm.out hb5); clear hb5)) | ((with_reducible show wpList _ _ _ (Oper.mk _ (Op.store 80 _ _) _ _ _ _ :: _) _ _); refine wpList_store_row rfl _ _ _ rfl w5.heap.size _ rfl rfl 80 tok0 (Blk.new w5 _ _) infoTok rfl (one_tok _ _ _ _) ?_; rw [World.setRow_alloc_new]; obtain ⟨Z, hZ⟩ : ∃ Z, w5.alloc (.cells #[.int .i64 K, .string TX, .int .i64 NX, .int .i64 PX] 80) = Z := ⟨_, rfl⟩; have HZB : Hid (Blk Z w5.heap.size 80 #[.int .i64 K, .string TX, .int .i64 NX, .int .i64 PX]) := Lib.hid (by rw [← hZ]; exact Blk.new w5 _ _); have HZ : Hid (Below w5.heap.size w5 Z) := Lib.hid (by rw [← hZ]; exact (Below.refl _ _).alloc (Nat.le_refl _) _); have z0 : Z.cell? ⟨w5.heap.size, 0, none⟩ = some (.int .i64 K) := HZB.out.cell 0; have z3 : Z.cell? ⟨w5.heap.size, 3, none⟩ = some (.int .i64 PX) := HZB.out.cell 3; have f3 := HZB.out.frozen 3) | ((with_reducible show wpList _ _ _ (Oper.mk _ (Op.load 80 _) _ _ _ _ :: _) _ _); refine wpList_load_row rfl _ _ rfl w5.heap.size rfl _ _ _ _ (tok_set3 (u := .int .i64 q) HZB.out) Tryz.underlying80 rfl infoTok ?_) | (at_builtin; (with_reducible show wpList _ _ _ (Oper.mk _ (Op.call ⟨_, _, #[41, 41]⟩) _ _ _ _ :: _) _ _); go_must (refine app_tok rfl _ _ rfl w.heap.size _ acc rfl (OwnT.alloc (own_after HO5.out (HZ.out.setCell (p := ⟨w5.heap.size, 3, none⟩) (Nat.le_refl _) (.int .i64 q))) _) ⟨K, TX, NX, q⟩ _ rfl (Blk.new' (by simp)) (by have := HS.out.few; omega) (by have := (HB5.out.trans ((HZ.out.setCell (p := ⟨w5.heap.size, 3, none⟩) (Nat.le_refl _) (.int .i64 q)).mono HB5.out.size)).size; simp at this ⊢; omega) ?_; intro v9 w9 hown9 hg9 hb9; have HO9 := Lib.hid hown9; have HB9 := Lib.hid (((HB5.out.trans ((HZ.out.setCell (p := ⟨w5.heap.size, 3, none⟩) (Nat.le_refl _) (.int .i64 q)).mono HB5.out.size)).alloc (HB5.out.trans ((HZ.out.setCell (p := ⟨w5.heap.size, 3, none⟩) (Nat.le_refl _) (.int .i64 q)).mono HB5.out.size)).size _).trans hb9); clear hown9 hg9 hb9)))
                      exact ⟨⟨acc ++ [⟨K, TX, NX, q⟩], q + m, by go_num, HA.out, HO9.out, HB9.out⟩, by simp [intOf]; omega⟩
      · have hqk := past_over (by rw [hsz]; omega) HK.out
        subst hqk
        have hqs : q = s.size := by omega
        have hne : ((q : Int) == (s.size : Int)) = true := by rw [beq_iff_eq]; omega
        have HX := Lib.hid (HS.out.fin (by rw [hsz]; omega) (by rw [hsz]; exact hs))
        go_wp2_with fail
        go_ret3
        rw [HX.out]
        exact ⟨_, rfl, HO.out, HBo.out⟩
theorem refScan_any (s : ByteArray) (w : World) (hs : s.size ≤ 140737488355328) : Calls Tryz.prog 20 #[.string s] w (ScanPost w (scanR s.data.toList)) := by
  by_cases h : 4096 < s.size
  · exact refScan_long s w hs h
  · exact refScan_short s w (by omega)
end Go.Proofs.YtckfcpiedainfaaGreatDoor

/-
  WALKS over the document's reader: word.
-/
import Derived.Test.YtckfcpiedainfaaGreatDoorZE36
namespace Go.Proofs.YtckfcpiedainfaaGreatDoor
open Go Go.RowKit Go.Sort
set_option linter.unusedVariables false
def callWords : List (List UInt8) := [[115, 105, 122, 101], [102, 105, 114, 115, 116], [116, 101, 120, 116], [99, 111, 110, 99, 101, 112, 116], [105, 100], [105, 110, 116]]
def loopWords : List (List UInt8) := [[97, 110, 121], [101, 118, 101, 114, 121], [111, 110, 108, 121], [115, 117, 109]]
theorem w6_at : ∀ k (hk : k < 6), ((#[.string { data := #[115, 105, 122, 101] }, .string { data := #[102, 105, 114, 115, 116] }, .string { data := #[116, 101, 120, 116] }, .string { data := #[99, 111, 110, 99, 101, 112, 116] }, .string { data := #[105, 100] }, .string { data := #[105, 110, 116] }] : Array Value))[k]? = some (.string (ba (callWords[k]'hk))) := fun k hk => by
  match k, hk with
  | 0, _ => rfl
  | 1, _ => rfl
  | 2, _ => rfl
  | 3, _ => rfl
  | 4, _ => rfl
  | 5, _ => rfl
theorem l4_at : ∀ k (hk : k < 4), ((#[.string { data := #[97, 110, 121] }, .string { data := #[101, 118, 101, 114, 121] }, .string { data := #[111, 110, 108, 121] }, .string { data := #[115, 117, 109] }] : Array Value))[k]? = some (.string (ba (loopWords[k]'hk))) := fun k hk => by
  match k, hk with
  | 0, _ => rfl
  | 1, _ => rfl
  | 2, _ => rfl
  | 3, _ => rfl
theorem dmust_read {w : World} {A : Option Addr} {c : Nat} {all : List Tok} {fin : Int} (hcx : DCx w A c all fin) (p : Nat) (s : ByteArray) :
    (mustV (all.drop p) s.data.toList = .error (all.drop p) ∧ Hid (∀ N ts X, DS w A c all fin (-1) N ts p X → Calls Tryz.prog 84 #[.pointer (some ⟨w.heap.size, 0, none⟩), .string s] X (fun e X' => e = .returned (.tuple #[]) ∧ DBad w A c all fin (placeV (all.drop p) fin) N X'))) ∨
    (mustV (all.drop p) s.data.toList = .ok (all.drop (p + 1)) ∧ p < all.length ∧ Hid (∀ N ts X, DS w A c all fin (-1) N ts p X → Calls Tryz.prog 84 #[.pointer (some ⟨w.heap.size, 0, none⟩), .string s] X (fun e X' => e = .returned (.tuple #[]) ∧ DS w A c all fin (-1) (N - 1) ts (p + 1) X'))) := by
  cases hm : isM (all.drop p) s.data.toList with
  | false => exact .inl ⟨by unfold mustV; rw [hm]; rfl, Lib.hid fun N ts X hS => dmustNo_any w A c all fin hcx N p ts X hS s hm⟩
  | true => exact .inr ⟨by unfold mustV; rw [hm, drop_one]; rfl, isM_at hm, Lib.hid fun N ts X hS => dmustYes_any w A c all fin hcx N p ts X hS s hm (isM_at hm)⟩
theorem dname_read {w : World} {A : Option Addr} {c : Nat} {all : List Tok} {fin : Int} (hcx : DCx w A c all fin) (p : Nat) :
    (nameV (all.drop p) = .error (all.drop p) ∧ Hid (∀ N ts X, DS w A c all fin (-1) N ts p X → Calls Tryz.prog 66 #[.pointer (some ⟨w.heap.size, 0, none⟩)] X (fun e X' => e = .returned (.string { data := #[] }) ∧ DBad w A c all fin (placeV (all.drop p) fin) N X'))) ∨
    (∃ s, nameV (all.drop p) = .ok (s, all.drop (p + 1)) ∧ p < all.length ∧ Hid (∀ N ts X, DS w A c all fin (-1) N ts p X → Calls Tryz.prog 66 #[.pointer (some ⟨w.heap.size, 0, none⟩)] X (fun e X' => e = .returned (.string s) ∧ DS w A c all fin (-1) (N - 1) ts (p + 1) X'))) := by
  cases hh : hasK (all.drop p) 3 with
  | false => exact .inl ⟨nameV_no hh, DS.nameNoH hcx p hh⟩
  | true =>
    obtain ⟨u, r, hl, hk, hv⟩ := nameV_yes hh
    obtain ⟨hr, hql⟩ := drop_cons hl
    exact .inr ⟨u.text, by rw [hv, hr], hql, DS.nameYesH hcx p hl hk⟩
theorem until_bind {β : Type} (l : List Tok) (s : List UInt8) (f : Tr × List Tok → Except (List Tok) β) : bindR (untilV rdX l s) f = bindR (rdX (.lv 1) l) fun p => bindR (mustV p.2 s) fun r => f (p.1, r) := by
  unfold untilV
  cases rdX (.lv 1) l with
  | error e => rfl
  | ok p =>
    show bindR (bindR (mustV p.2 s) fun r => .ok (p.1, r)) f = bindR (mustV p.2 s) fun r => f (p.1, r)
    cases mustV p.2 s with
    | error e => rfl
    | ok r => rfl
/-- what stands behind a word with brackets; behind a loop's word -/
def callSeq (k : Int) (l : List Tok) : Rd := bindR (mustV l [40]) fun r2 => bindR (untilV rdX r2 [41]) fun a => .ok (⟨k, ByteArray.empty, 0, row1 a.1⟩, a.2)
def loopSeq (k : Int) (l : List Tok) : Rd := bindR (nameV l) fun x => bindR (mustV x.2 [105, 110]) fun r2 => bindR (untilV rdX r2 [58]) fun a => bindR (untilV rdX a.2 [101, 110, 100]) fun b => .ok (⟨k, x.1, 0, row2 a.1 b.1⟩, b.2)
set_option maxHeartbeats 25600000 in
set_option maxRecDepth 20000 in
theorem dword_any (w : World) (A : Option Addr) (c : Nat) (all : List Tok) (fin : Int) (hcx : DCx w A c all fin) (p : Nat) (hp : p < all.length) (s : ByteArray) (V : Rd)
    (h6 : ∀ (k : Nat) (hk : k < 6), callWords[k]'hk = s.data.toList → V = callSeq (14 + (k : Int)) (all.drop (p + 1))) (h4 : ∀ (k : Nat) (hk : k < 4), loopWords[k]'hk = s.data.toList → V = loopSeq (31 + (k : Int)) (all.drop (p + 1))) (h0 : (∀ (k : Nat) (hk : k < 6), callWords[k]'hk ≠ s.data.toList) → (∀ (k : Nat) (hk : k < 4), loopWords[k]'hk ≠ s.data.toList) → V = .error (all.drop p))
    (HD : ∀ q, p + 1 ≤ q → q ≤ all.length → DC w A c all fin 21 #[.pointer (some ⟨w.heap.size, 0, none⟩), .int .i64 1] q (rdX (.lv 1) (all.drop q))) :
    DC w A c all fin 85 #[.pointer (some ⟨w.heap.size, 0, none⟩), .string s] p V := by
  intro N ts X hN hS
  have hroom := hcx.ok.room
  have h1N := hS.pos hp
  have HMB : Hid (∀ (s : ByteArray) q N X, DBad w A c all fin q N X → Calls Tryz.prog 84 #[.pointer (some ⟨w.heap.size, 0, none⟩), .string s] X (fun e X' => e = .returned (.tuple #[]) ∧ DBad w A c all fin q N X')) := Lib.hid fun s q N X h => dmustB_any w A c all fin q N X h s
  have HLB : Hid (∀ (n : Int) q N X, DBad w A c all fin q N X → Calls Tryz.prog 21 #[.pointer (some ⟨w.heap.size, 0, none⟩), .int .i64 n] X (fun e X' => e = .returned (.int .i64 0) ∧ DBad w A c all fin q N X')) := Lib.hid fun n q N X h => dlevelB_any w A c all fin q N X h n
  have hw1 : IntKind.i64.wrap ((p : Int) + 1) = (p : Int) + 1 := IntWalk.i64_in _ (by omega)
  have HW : Hid (DS w A c all fin (-1) N ts p (X.alloc (.cells #[.string { data := #[115, 105, 122, 101] }, .string { data := #[102, 105, 114, 115, 116] }, .string { data := #[116, 101, 120, 116] }, .string { data := #[99, 111, 110, 99, 101, 112, 116] }, .string { data := #[105, 100] }, .string { data := #[105, 110, 116] }] 9)) ∧ Blk (X.alloc (.cells #[.string { data := #[115, 105, 122, 101] }, .string { data := #[102, 105, 114, 115, 116] }, .string { data := #[116, 101, 120, 116] }, .string { data := #[99, 111, 110, 99, 101, 112, 116] }, .string { data := #[105, 100] }, .string { data := #[105, 110, 116] }] 9)) X.heap.size 9 #[.string { data := #[115, 105, 122, 101] }, .string { data := #[102, 105, 114, 115, 116] }, .string { data := #[116, 101, 120, 116] }, .string { data := #[99, 111, 110, 99, 101, 112, 116] }, .string { data := #[105, 100] }, .string { data := #[105, 110, 116] }]) := Lib.hid ⟨hS.after (below_of_alloc _), Blk.new _ _ _⟩
  clear hS
  go_enter Tryz.func85, Tryz.ntmps85
  go_upto_region 2 with (fail)
  generalize hwb : X.heap.size = wb at HW
  generalize X.alloc (.cells #[.string { data := #[115, 105, 122, 101] }, .string { data := #[102, 105, 114, 115, 116] }, .string { data := #[116, 101, 120, 116] }, .string { data := #[99, 111, 110, 99, 101, 112, 116] }, .string { data := #[105, 100] }, .string { data := #[105, 110, 116] }] 9) = X1 at HW ⊢
  clear hwb
  go_wp2_with fail
  go_loopw [6, 7] (fun i _ wr => ∃ k : Nat, k ≤ 6 ∧ i = .int .i64 k ∧ Hid (DS w A c all fin (-1) N ts p wr ∧ Blk wr wb 9 #[.string { data := #[115, 105, 122, 101] }, .string { data := #[102, 105, 114, 115, 116] }, .string { data := #[116, 101, 120, 116] }, .string { data := #[99, 111, 110, 99, 101, 112, 116] }, .string { data := #[105, 100] }, .string { data := #[105, 110, 116] }] ∧ ∀ j (hj : j < 6), j < k → callWords[j]'hj ≠ s.data.toList)) (fun i _ _ => 6 - (intOf i).toNat)
  case atStart => exact ⟨0, Nat.zero_le _, rfl, Lib.hid ⟨HW.out.1, HW.out.2, fun j hj h => absurd h (Nat.not_lt_zero _)⟩⟩
  case round =>
    obtain ⟨k, hk, rfl, HI⟩ := hrel
    rename World => wr
    obtain ⟨hD, hB, hno⟩ := HI.out
    have HS := Lib.hid hD
    by_cases hlt : k < 6
    · have d0 : decide ((k : Int) < 6) = true := decide_eq_true (by omega)
      have e1 := (hB.cell k).trans (w6_at k hlt)
      have HBk := Lib.hid hB
      have HNO := Lib.hid hno
      by_cases hs : callWords[k]'hlt = s.data.toList
      · have q1 : ((ba (callWords[k]'hlt)).toList == s.toList) = true := by rw [ByteArray.toList_eq, ByteArray.toList_eq, hs]; simp [ba]
        have hV := h6 k hlt hs
        unfold callSeq at hV
        obtain ⟨x0, x1, x2, x3, f1, f3⟩ := hD.cells
        have hw2 : IntKind.i64.wrap (14 + (k : Int)) = 14 + (k : Int) := IntWalk.i64_in _ (by omega)
        generalize callWords[k]'hlt = wk at e1 q1
        clear h6 h4 h0 HI hD hB hno hs x0 x2 x3 f3
        simp only [until_bind] at hV
        rcases dmust_read hcx (p + 1) ⟨#[40]⟩ with ⟨hr, HE⟩ | ⟨hr, hl0, HC0⟩
        · rw [hr, bind_err] at hV
          subst hV
          clear hr hcx HD
          go_wp2_with (first | (go_at_call 40; (with_reducible refine (HB3.out.add1 (by omega) _ _ _ _).mono ?_); rintro e wz ⟨vz, rfl, hz⟩; have HZ := Lib.hid hz; clear hz) | (go_at_call 84; (with_reducible refine (HE.out _ _ _ (HS.out.inc hp)).mono ?_); rintro e wf ⟨rfl, hf⟩; have HB1 := Lib.hid hf; clear hf) | (go_at_call 84; (with_reducible refine (HMB.out _ _ _ _ HB2.out).mono ?_); rintro e wb2 ⟨rfl, hb⟩; have HB3 := Lib.hid hb; clear hb) | (go_at_call 21; (with_reducible refine (HLB.out _ _ _ _ HB1.out).mono ?_); rintro e wb1 ⟨rfl, hb⟩; have HB2 := Lib.hid hb; clear hb))
          go_ret
          exact ⟨vz, rfl, HZ.out.relax (by omega)⟩
        rw [hr, bind_ok] at hV
        (try dsimp only at hV)
        clear hr
        rcases (HD (p + 1 + 1) (by omega) (by omega)).read (by omega) with ⟨l', hr, HE⟩ | ⟨t1, p1, hr, hq1, hl1, HC1⟩
        · rw [hr, bind_err] at hV
          subst hV
          clear hr hcx HD
          go_wp2_with (first | (go_at_call 40; (with_reducible refine (HB3.out.add1 (by omega) _ _ _ _).mono ?_); rintro e wz ⟨vz, rfl, hz⟩; have HZ := Lib.hid hz; clear hz) | (go_at_call 21; (with_reducible refine (HE.out _ _ _ (by omega) (HS1.out)).mono ?_); rintro e wf ⟨v1, rfl, hf⟩; have HB2 := Lib.hid hf; clear hf) | (go_at_call 84; (with_reducible refine (HMB.out _ _ _ _ HB2.out).mono ?_); rintro e wb2 ⟨rfl, hb⟩; have HB3 := Lib.hid hb; clear hb) | (go_at_call 84; (with_reducible refine (HC0.out _ _ _ (HS.out.inc hp)).mono ?_); rintro e wg0 ⟨rfl, hg⟩; have HS1 := Lib.hid hg; clear hg))
          go_ret
          exact ⟨vz, rfl, HZ.out.relax (by omega)⟩
        rw [hr, bind_ok] at hV
        (try dsimp only at hV)
        clear hr
        rcases dmust_read hcx (p1) ⟨#[41]⟩ with ⟨hr, HE⟩ | ⟨hr, hl2, HC2⟩
        · rw [hr, bind_err] at hV
          subst hV
          clear hr hcx HD
          go_wp2_with (first | (go_at_call 40; (with_reducible refine (HB3.out.add1 (by omega) _ _ _ _).mono ?_); rintro e wz ⟨vz, rfl, hz⟩; have HZ := Lib.hid hz; clear hz) | (go_at_call 84; (with_reducible refine (HE.out _ _ _ (HS2.out)).mono ?_); rintro e wf ⟨rfl, hf⟩; have HB3 := Lib.hid hf; clear hf) | (go_at_call 21; (with_reducible refine (HC1.out _ _ _ (by omega) (HS1.out)).mono ?_); rintro e wg1 ⟨j1, rfl, hg⟩; have HS2 := Lib.hid hg; clear hg) | (go_at_call 84; (with_reducible refine (HC0.out _ _ _ (HS.out.inc hp)).mono ?_); rintro e wg0 ⟨rfl, hg⟩; have HS1 := Lib.hid hg; clear hg))
          go_ret
          exact ⟨vz, rfl, HZ.out.relax (by omega)⟩
        rw [hr, bind_ok] at hV
        (try dsimp only at hV)
        clear hr
        subst hV
        clear hcx HD
        go_wp2_with (first | (go_at_call 40; (with_reducible refine (HS3.out.add1 (by omega) _ _ _).mono ?_); rintro e wz ⟨jz, rfl, hz⟩; have HZ := Lib.hid hz; clear hz) | (go_at_call 84; (with_reducible refine (HC2.out _ _ _ (HS2.out)).mono ?_); rintro e wg2 ⟨rfl, hg⟩; have HS3 := Lib.hid hg; clear hg) | (go_at_call 21; (with_reducible refine (HC1.out _ _ _ (by omega) (HS1.out)).mono ?_); rintro e wg1 ⟨j1, rfl, hg⟩; have HS2 := Lib.hid hg; clear hg) | (go_at_call 84; (with_reducible refine (HC0.out _ _ _ (HS.out.inc hp)).mono ?_); rintro e wg0 ⟨rfl, hg⟩; have HS1 := Lib.hid hg; clear hg))
        go_ret
        exact ⟨_, rfl, by omega, jz, rfl, HZ.out.relax (by omega)⟩
      · have q1 : ((ba (callWords[k]'hlt)).toList == s.toList) = false := by rw [ByteArray.toList_eq, ByteArray.toList_eq]; simpa [ba] using hs
        have HS2 := Lib.hid hs
        clear hD hB hno hs HI
        generalize hwk : callWords[k]'hlt = wk at e1 q1
        go_wp2_with fail
        go_roundw
        case measure => simp only [intOf]; omega
        case rel => exact ⟨k + 1, by omega, by simp, Lib.hid ⟨HS.out, HBk.out, fun j hj hjk e => by
          rcases Nat.lt_or_ge j k with h | h
          · exact HNO.out j hj h e
          · have hjk' : j = k := by omega
            subst hjk'
            exact HS2.out e⟩⟩
    · have hk6 : k = 6 := by omega
      subst hk6
      have HNO : Hid (∀ j (hj : j < 6), callWords[j]'hj ≠ s.data.toList) := Lib.hid fun j hj => hno j hj hj
      have HW2 : Hid (DS w A c all fin (-1) N ts p (wr.alloc (.cells #[.string { data := #[97, 110, 121] }, .string { data := #[101, 118, 101, 114, 121] }, .string { data := #[111, 110, 108, 121] }, .string { data := #[115, 117, 109] }] 9)) ∧ Blk (wr.alloc (.cells #[.string { data := #[97, 110, 121] }, .string { data := #[101, 118, 101, 114, 121] }, .string { data := #[111, 110, 108, 121] }, .string { data := #[115, 117, 109] }] 9)) wr.heap.size 9 #[.string { data := #[97, 110, 121] }, .string { data := #[101, 118, 101, 114, 121] }, .string { data := #[111, 110, 108, 121] }, .string { data := #[115, 117, 109] }]) := Lib.hid ⟨hD.after (below_of_alloc _), Blk.new _ _ _⟩
      clear hD hB hno HI
      go_upto_region 12 with (fail)
      generalize hwb2 : wr.heap.size = wb2 at HW2
      generalize wr.alloc (.cells #[.string { data := #[97, 110, 121] }, .string { data := #[101, 118, 101, 114, 121] }, .string { data := #[111, 110, 108, 121] }, .string { data := #[115, 117, 109] }] 9) = X2 at HW2 ⊢
      clear hwb2
      go_wp2_with fail
      go_loopw [9, 10, 11, 12] (fun i _ _ _ wv => ∃ k : Nat, k ≤ 4 ∧ i = .int .i64 k ∧ Hid (DS w A c all fin (-1) N ts p wv ∧ Blk wv wb2 9 #[.string { data := #[97, 110, 121] }, .string { data := #[101, 118, 101, 114, 121] }, .string { data := #[111, 110, 108, 121] }, .string { data := #[115, 117, 109] }] ∧ ∀ j (hj : j < 4), j < k → loopWords[j]'hj ≠ s.data.toList)) (fun i _ _ _ _ => 4 - (intOf i).toNat)
      case atStart => exact ⟨0, Nat.zero_le _, rfl, Lib.hid ⟨HW2.out.1, HW2.out.2, fun j hj h => absurd h (Nat.not_lt_zero _)⟩⟩
      case round =>
        obtain ⟨k, hk, rfl, HI⟩ := hrel
        rename World => wv
        obtain ⟨hD, hB, hno⟩ := HI.out
        have HS := Lib.hid hD
        by_cases hlt : k < 4
        · have d0 : decide ((k : Int) < 4) = true := decide_eq_true (by omega)
          have e1 := (hB.cell k).trans (l4_at k hlt)
          have HBk := Lib.hid hB
          have HNO2 := Lib.hid hno
          by_cases hs : loopWords[k]'hlt = s.data.toList
          · have q1 : ((ba (loopWords[k]'hlt)).toList == s.toList) = true := by rw [ByteArray.toList_eq, ByteArray.toList_eq, hs]; simp [ba]
            have hV := h4 k hlt hs
            unfold loopSeq at hV
            obtain ⟨x0, x1, x2, x3, f1, f3⟩ := hD.cells
            have hw2 : IntKind.i64.wrap (31 + (k : Int)) = 31 + (k : Int) := IntWalk.i64_in _ (by omega)
            generalize loopWords[k]'hlt = wk at e1 q1
            clear h6 h4 h0 HI hD hB hno hs x0 x2 x3 f3
            simp only [until_bind] at hV
            rcases dname_read hcx (p + 1) with ⟨hr, HE⟩ | ⟨s0, hr, hl0, HC0⟩
            · rw [hr, bind_err] at hV
              subst hV
              clear hr hcx HD
              go_wp2_with (first | (go_at_call 40; (with_reducible refine (HB6.out.add2 (by omega) _ _ _ _ _).mono ?_); rintro e wz ⟨vz, rfl, hz⟩; have HZ := Lib.hid hz; clear hz) | (go_at_call 66; (with_reducible refine (HE.out _ _ _ (HS.out.inc hp)).mono ?_); rintro e wf ⟨rfl, hf⟩; have HB1 := Lib.hid hf; clear hf) | (go_at_call 84; (with_reducible refine (HMB.out _ _ _ _ HB5.out).mono ?_); rintro e wb5 ⟨rfl, hb⟩; have HB6 := Lib.hid hb; clear hb) | (go_at_call 21; (with_reducible refine (HLB.out _ _ _ _ HB4.out).mono ?_); rintro e wb4 ⟨rfl, hb⟩; have HB5 := Lib.hid hb; clear hb) | (go_at_call 84; (with_reducible refine (HMB.out _ _ _ _ HB3.out).mono ?_); rintro e wb3 ⟨rfl, hb⟩; have HB4 := Lib.hid hb; clear hb) | (go_at_call 21; (with_reducible refine (HLB.out _ _ _ _ HB2.out).mono ?_); rintro e wb2 ⟨rfl, hb⟩; have HB3 := Lib.hid hb; clear hb) | (go_at_call 84; (with_reducible refine (HMB.out _ _ _ _ HB1.out).mono ?_); rintro e wb1 ⟨rfl, hb⟩; have HB2 := Lib.hid hb; clear hb))
              go_ret
              exact ⟨vz, rfl, HZ.out.relax (by omega)⟩
            rw [hr, bind_ok] at hV
            (try dsimp only at hV)
            clear hr
            rcases dmust_read hcx (p + 1 + 1) ⟨#[105, 110]⟩ with ⟨hr, HE⟩ | ⟨hr, hl1, HC1⟩
            · rw [hr, bind_err] at hV
              subst hV
              clear hr hcx HD
              go_wp2_with (first | (go_at_call 40; (with_reducible refine (HB6.out.add2 (by omega) _ _ _ _ _).mono ?_); rintro e wz ⟨vz, rfl, hz⟩; have HZ := Lib.hid hz; clear hz) | (go_at_call 84; (with_reducible refine (HE.out _ _ _ (HS1.out)).mono ?_); rintro e wf ⟨rfl, hf⟩; have HB2 := Lib.hid hf; clear hf) | (go_at_call 84; (with_reducible refine (HMB.out _ _ _ _ HB5.out).mono ?_); rintro e wb5 ⟨rfl, hb⟩; have HB6 := Lib.hid hb; clear hb) | (go_at_call 21; (with_reducible refine (HLB.out _ _ _ _ HB4.out).mono ?_); rintro e wb4 ⟨rfl, hb⟩; have HB5 := Lib.hid hb; clear hb) | (go_at_call 84; (with_reducible refine (HMB.out _ _ _ _ HB3.out).mono ?_); rintro e wb3 ⟨rfl, hb⟩; have HB4 := Lib.hid hb; clear hb) | (go_at_call 21; (with_reducible refine (HLB.out _ _ _ _ HB2.out).mono ?_); rintro e wb2 ⟨rfl, hb⟩; have HB3 := Lib.hid hb; clear hb) | (go_at_call 66; (with_reducible refine (HC0.out _ _ _ (HS.out.inc hp)).mono ?_); rintro e wg0 ⟨rfl, hg⟩; have HS1 := Lib.hid hg; clear hg))
              go_ret
              exact ⟨vz, rfl, HZ.out.relax (by omega)⟩
            rw [hr, bind_ok] at hV
            (try dsimp only at hV)
            clear hr
            rcases (HD (p + 1 + 1 + 1) (by omega) (by omega)).read (by omega) with ⟨l', hr, HE⟩ | ⟨t2, p2, hr, hq2, hl2, HC2⟩
            · rw [hr, bind_err] at hV
              subst hV
              clear hr hcx HD
              go_wp2_with (first | (go_at_call 40; (with_reducible refine (HB6.out.add2 (by omega) _ _ _ _ _).mono ?_); rintro e wz ⟨vz, rfl, hz⟩; have HZ := Lib.hid hz; clear hz) | (go_at_call 21; (with_reducible refine (HE.out _ _ _ (by omega) (HS2.out)).mono ?_); rintro e wf ⟨v2, rfl, hf⟩; have HB3 := Lib.hid hf; clear hf) | (go_at_call 84; (with_reducible refine (HMB.out _ _ _ _ HB5.out).mono ?_); rintro e wb5 ⟨rfl, hb⟩; have HB6 := Lib.hid hb; clear hb) | (go_at_call 21; (with_reducible refine (HLB.out _ _ _ _ HB4.out).mono ?_); rintro e wb4 ⟨rfl, hb⟩; have HB5 := Lib.hid hb; clear hb) | (go_at_call 84; (with_reducible refine (HMB.out _ _ _ _ HB3.out).mono ?_); rintro e wb3 ⟨rfl, hb⟩; have HB4 := Lib.hid hb; clear hb) | (go_at_call 84; (with_reducible refine (HC1.out _ _ _ (HS1.out)).mono ?_); rintro e wg1 ⟨rfl, hg⟩; have HS2 := Lib.hid hg; clear hg) | (go_at_call 66; (with_reducible refine (HC0.out _ _ _ (HS.out.inc hp)).mono ?_); rintro e wg0 ⟨rfl, hg⟩; have HS1 := Lib.hid hg; clear hg))
              go_ret
              exact ⟨vz, rfl, HZ.out.relax (by omega)⟩
            rw [hr, bind_ok] at hV
            (try dsimp only at hV)
            clear hr
            rcases dmust_read hcx (p2) ⟨#[58]⟩ with ⟨hr, HE⟩ | ⟨hr, hl3, HC3⟩
            · rw [hr, bind_err] at hV
              subst hV
              clear hr hcx HD
              go_wp2_with (first | (go_at_call 40; (with_reducible refine (HB6.out.add2 (by omega) _ _ _ _ _).mono ?_); rintro e wz ⟨vz, rfl, hz⟩; have HZ := Lib.hid hz; clear hz) | (go_at_call 84; (with_reducible refine (HE.out _ _ _ (HS3.out)).mono ?_); rintro e wf ⟨rfl, hf⟩; have HB4 := Lib.hid hf; clear hf) | (go_at_call 84; (with_reducible refine (HMB.out _ _ _ _ HB5.out).mono ?_); rintro e wb5 ⟨rfl, hb⟩; have HB6 := Lib.hid hb; clear hb) | (go_at_call 21; (with_reducible refine (HLB.out _ _ _ _ HB4.out).mono ?_); rintro e wb4 ⟨rfl, hb⟩; have HB5 := Lib.hid hb; clear hb) | (go_at_call 21; (with_reducible refine (HC2.out _ _ _ (by omega) (HS2.out)).mono ?_); rintro e wg2 ⟨j2, rfl, hg⟩; have HS3 := Lib.hid hg; clear hg) | (go_at_call 84; (with_reducible refine (HC1.out _ _ _ (HS1.out)).mono ?_); rintro e wg1 ⟨rfl, hg⟩; have HS2 := Lib.hid hg; clear hg) | (go_at_call 66; (with_reducible refine (HC0.out _ _ _ (HS.out.inc hp)).mono ?_); rintro e wg0 ⟨rfl, hg⟩; have HS1 := Lib.hid hg; clear hg))
              go_ret
              exact ⟨vz, rfl, HZ.out.relax (by omega)⟩
            rw [hr, bind_ok] at hV
            (try dsimp only at hV)
            clear hr
            rcases (HD (p2 + 1) (by omega) (by omega)).read (by omega) with ⟨l', hr, HE⟩ | ⟨t4, p4, hr, hq4, hl4, HC4⟩
            · rw [hr, bind_err] at hV
              subst hV
              clear hr hcx HD
              go_wp2_with (first | (go_at_call 40; (with_reducible refine (HB6.out.add2 (by omega) _ _ _ _ _).mono ?_); rintro e wz ⟨vz, rfl, hz⟩; have HZ := Lib.hid hz; clear hz) | (go_at_call 21; (with_reducible refine (HE.out _ _ _ (by omega) (HS4.out)).mono ?_); rintro e wf ⟨v4, rfl, hf⟩; have HB5 := Lib.hid hf; clear hf) | (go_at_call 84; (with_reducible refine (HMB.out _ _ _ _ HB5.out).mono ?_); rintro e wb5 ⟨rfl, hb⟩; have HB6 := Lib.hid hb; clear hb) | (go_at_call 84; (with_reducible refine (HC3.out _ _ _ (HS3.out)).mono ?_); rintro e wg3 ⟨rfl, hg⟩; have HS4 := Lib.hid hg; clear hg) | (go_at_call 21; (with_reducible refine (HC2.out _ _ _ (by omega) (HS2.out)).mono ?_); rintro e wg2 ⟨j2, rfl, hg⟩; have HS3 := Lib.hid hg; clear hg) | (go_at_call 84; (with_reducible refine (HC1.out _ _ _ (HS1.out)).mono ?_); rintro e wg1 ⟨rfl, hg⟩; have HS2 := Lib.hid hg; clear hg) | (go_at_call 66; (with_reducible refine (HC0.out _ _ _ (HS.out.inc hp)).mono ?_); rintro e wg0 ⟨rfl, hg⟩; have HS1 := Lib.hid hg; clear hg))
              go_ret
              exact ⟨vz, rfl, HZ.out.relax (by omega)⟩
            rw [hr, bind_ok] at hV
            (try dsimp only at hV)
            clear hr
            rcases dmust_read hcx (p4) ⟨#[101, 110, 100]⟩ with ⟨hr, HE⟩ | ⟨hr, hl5, HC5⟩
            · rw [hr, bind_err] at hV
              subst hV
              clear hr hcx HD
              go_wp2_with (first | (go_at_call 40; (with_reducible refine (HB6.out.add2 (by omega) _ _ _ _ _).mono ?_); rintro e wz ⟨vz, rfl, hz⟩; have HZ := Lib.hid hz; clear hz) | (go_at_call 84; (with_reducible refine (HE.out _ _ _ (HS5.out)).mono ?_); rintro e wf ⟨rfl, hf⟩; have HB6 := Lib.hid hf; clear hf) | (go_at_call 21; (with_reducible refine (HC4.out _ _ _ (by omega) (HS4.out)).mono ?_); rintro e wg4 ⟨j4, rfl, hg⟩; have HS5 := Lib.hid hg; clear hg) | (go_at_call 84; (with_reducible refine (HC3.out _ _ _ (HS3.out)).mono ?_); rintro e wg3 ⟨rfl, hg⟩; have HS4 := Lib.hid hg; clear hg) | (go_at_call 21; (with_reducible refine (HC2.out _ _ _ (by omega) (HS2.out)).mono ?_); rintro e wg2 ⟨j2, rfl, hg⟩; have HS3 := Lib.hid hg; clear hg) | (go_at_call 84; (with_reducible refine (HC1.out _ _ _ (HS1.out)).mono ?_); rintro e wg1 ⟨rfl, hg⟩; have HS2 := Lib.hid hg; clear hg) | (go_at_call 66; (with_reducible refine (HC0.out _ _ _ (HS.out.inc hp)).mono ?_); rintro e wg0 ⟨rfl, hg⟩; have HS1 := Lib.hid hg; clear hg))
              go_ret
              exact ⟨vz, rfl, HZ.out.relax (by omega)⟩
            rw [hr, bind_ok] at hV
            (try dsimp only at hV)
            clear hr
            subst hV
            clear hcx HD
            go_wp2_with (first | (go_at_call 40; (with_reducible refine (HS6.out.add2 (by omega) _ _ _).mono ?_); rintro e wz ⟨jz, rfl, hz⟩; have HZ := Lib.hid hz; clear hz) | (go_at_call 84; (with_reducible refine (HC5.out _ _ _ (HS5.out)).mono ?_); rintro e wg5 ⟨rfl, hg⟩; have HS6 := Lib.hid hg; clear hg) | (go_at_call 21; (with_reducible refine (HC4.out _ _ _ (by omega) (HS4.out)).mono ?_); rintro e wg4 ⟨j4, rfl, hg⟩; have HS5 := Lib.hid hg; clear hg) | (go_at_call 84; (with_reducible refine (HC3.out _ _ _ (HS3.out)).mono ?_); rintro e wg3 ⟨rfl, hg⟩; have HS4 := Lib.hid hg; clear hg) | (go_at_call 21; (with_reducible refine (HC2.out _ _ _ (by omega) (HS2.out)).mono ?_); rintro e wg2 ⟨j2, rfl, hg⟩; have HS3 := Lib.hid hg; clear hg) | (go_at_call 84; (with_reducible refine (HC1.out _ _ _ (HS1.out)).mono ?_); rintro e wg1 ⟨rfl, hg⟩; have HS2 := Lib.hid hg; clear hg) | (go_at_call 66; (with_reducible refine (HC0.out _ _ _ (HS.out.inc hp)).mono ?_); rintro e wg0 ⟨rfl, hg⟩; have HS1 := Lib.hid hg; clear hg))
            go_ret
            exact ⟨_, rfl, by omega, jz, rfl, HZ.out.relax (by omega)⟩
          · have q1 : ((ba (loopWords[k]'hlt)).toList == s.toList) = false := by rw [ByteArray.toList_eq, ByteArray.toList_eq]; simpa [ba] using hs
            have HS2 := Lib.hid hs
            clear hD hB hno hs HI
            generalize hwk : loopWords[k]'hlt = wk at e1 q1
            go_wp2_with fail
            go_roundw
            case measure => simp only [intOf]; omega
            case rel => exact ⟨k + 1, by omega, by simp, Lib.hid ⟨HS.out, HBk.out, fun j hj hjk e => by
              rcases Nat.lt_or_ge j k with h | h
              · exact HNO2.out j hj h e
              · have hjk' : j = k := by omega
                subst hjk'
                exact HS2.out e⟩⟩
        · have hk4 : k = 4 := by omega
          subst hk4
          have hV := h0 HNO.out fun j hj => hno j hj hj
          have HST := Lib.hid (dstop_any w A c all fin hcx N p ts wv hD)
          have h0q := place_nn hcx p
          subst hV
          clear h6 h4 h0 HI hD hB hno hcx HD
          go_wp2_with (go_at_call 22; (with_reducible refine HST.out.mono ?_); rintro e w9 ⟨rfl, hs9⟩; have HS9 := Lib.hid hs9; clear hs9)
          go_ret
          exact ⟨0, rfl, h0q, p, HS9.out.less⟩
end Go.Proofs.YtckfcpiedainfaaGreatDoor

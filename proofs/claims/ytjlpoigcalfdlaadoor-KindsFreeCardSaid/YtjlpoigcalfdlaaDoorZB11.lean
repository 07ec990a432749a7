/-
  WALKS over package expr: depth, Right.
  WALKS over package expr: depth, Right.
-/
import Derived.Test.YtjlpoigcalfdlaaDoorZB10
import Derived.Deep.CutBlock
namespace Go.Proofs.YtjlpoigcalfdlaaDoor
open Go Go.RowKit Go.Sort
set_option linter.unusedVariables false
/-- the boxes of depth: how many are met, the list, the deepest, the function itself -/
structure DB (w0 : World) (S : Sl) (gm gl gd gf : Nat) (m d : Nat) (X : World) : Prop where
  bel : Below w0.heap.size w0 X
  m : Blk X gm 3 #[.int .i64 m]
  l : Blk X gl 22 #[.slice S.A S.n S.c]
  d : Blk X gd 3 #[.int .i64 d]
  f : Blk X gf 83 #[.func (.func 39) #[] #[.pointer (some ⟨gm, 0, none⟩), .pointer (some ⟨gl, 0, none⟩), .pointer (some ⟨gd, 0, none⟩), .pointer (some ⟨gf, 0, none⟩)]]
  lm : w0.heap.size ≤ gm
  ld : w0.heap.size ≤ gd
  ne : gm ≠ gd
section
variable {w0 : World} {S : Sl} {gm gl gd gf m d m' d' : Nat} {X X' : World}
theorem DB.setm (h : DB w0 S gm gl gd gf m d X) (m' : Nat) : DB w0 S gm gl gd gf m' d (X.setCell ⟨gm, 0, none⟩ (.int .i64 m')) :=
  ⟨h.bel.setCell (p := ⟨gm, 0, none⟩) h.lm _, by simpa using h.m.set_ 0 (.int .i64 m'), h.l.far (p := ⟨gm, 0, none⟩) (h.l.ne_ h.m (by decide)) _, h.d.far (p := ⟨gm, 0, none⟩) (Ne.symm h.ne) _, h.f.far (p := ⟨gm, 0, none⟩) (h.f.ne_ h.m (by decide)) _, h.lm, h.ld, h.ne⟩
theorem DB.setd (h : DB w0 S gm gl gd gf m d X) (d' : Nat) : DB w0 S gm gl gd gf m d' (X.setCell ⟨gd, 0, none⟩ (.int .i64 d')) :=
  ⟨h.bel.setCell (p := ⟨gd, 0, none⟩) h.ld _, h.m.far (p := ⟨gd, 0, none⟩) h.ne _, h.l.far (p := ⟨gd, 0, none⟩) (h.l.ne_ h.d (by decide)) _, by simpa using h.d.set_ 0 (.int .i64 d'), h.f.far (p := ⟨gd, 0, none⟩) (h.f.ne_ h.d (by decide)) _, h.lm, h.ld, h.ne⟩
end
def Met (w0 : World) (S : Sl) (gm gl gd gf : Nat) (r : Option (Nat × Nat)) (e : Ending) (X' : World) : Prop := match r with
  | some x => e = .returned (.bool true) ∧ DB w0 S gm gl gd gf x.1 x.2 X'
  | none => e = .returned (.bool false) ∧ ∃ m d, DB w0 S gm gl gd gf m d X'
theorem met_no {w0 : World} {S : Sl} {gm gl gd gf m d : Nat} {r : Option (Nat × Nat)} {X : World} (h : r = none) (hd : DB w0 S gm gl gd gf m d X) : Met w0 S gm gl gd gf r (.returned (.bool false)) X := by
  subst h; exact ⟨rfl, m, d, hd⟩
theorem met_yes {w0 : World} {S : Sl} {gm gl gd gf m d : Nat} {r : Option (Nat × Nat)} {X : World} (h : r = some (m, d)) (hd : DB w0 S gm gl gd gf m d X) : Met w0 S gm gl gd gf r (.returned (.bool true)) X := by
  subst h; exact ⟨rfl, hd⟩
theorem ret_maxN {a b : Nat} : Value.int .i64 (max (a : Int) b) = .int .i64 ((max a b : Nat) : Int) := by congr 1; omega
set_option maxRecDepth 20000 in
set_option maxHeartbeats 3200000 in
theorem meet_any (w0 : World) (hi : Nat) (S : Sl) (l : List (EN × Sl)) (hl : ExIn w0 hi S l) (hh : hi ≤ w0.heap.size) (hn : S.n ≤ 256) (gm gl gd gf : Nat) :
    ∀ (N : Nat) (X : World) (m d v : Nat) (at_ : Int), DB w0 S gm gl gd gf m d X → l.length ≤ N + m → v ≤ m + 1 →
    Calls Tryd.prog 39 #[.int .i64 at_, .int .i64 v, .pointer (some ⟨gm, 0, none⟩), .pointer (some ⟨gl, 0, none⟩), .pointer (some ⟨gd, 0, none⟩), .pointer (some ⟨gf, 0, none⟩)] X (Met w0 S gm gl gd gf (outV (nodesOf l) m d v [at_])) := by
  intro N
  induction N with
  | zero =>
    intro X m d v at_ hD hN hv
    have hr : outV (nodesOf l) m d v [at_] = none := outV_end (by rw [nodesOf_len]; omega)
    rw [hr]
    have hlen : S.n = l.length := hl.g.n
    have hle : S.n ≤ m := by omega
    have HD := Lib.hid hD
    have c1 := (hD.m.cell 0).trans (show _ = some (.int .i64 (m : Int)) from rfl)
    have c2 := (hD.l.cell 0).trans (show _ = some (.slice S.A S.n S.c) from rfl)
    have hnn : S.n ≤ 256 := hn
    clear hD hr hN hlen
    by_cases h1 : at_ = m
    · have d1 : (at_ != (m : Int)) = false := by rw [h1]; simp
      have d2 : decide ((S.n : Int) ≤ at_) = true := by simp; omega
      clear h1
      go_enter Tryd.func39, Tryd.ntmps39
      go_wp2_with fail
      go_ret
      exact met_no rfl HD.out
    · have d1 : (at_ != (m : Int)) = true := by rw [bne_iff_ne]; exact h1
      clear h1
      go_enter Tryd.func39, Tryd.ntmps39
      go_wp2_with fail
      go_ret
      exact met_no rfl HD.out
  | succ N ih =>
    intro X m d v at_ hD hN hv
    have hlen : S.n = l.length := hl.g.n
    have HIH := Lib.hid ih
    have HLN : Hid (l.length ≤ N + 1 + m) := Lib.hid hN
    have HLE := Lib.hid hlen
    clear ih hN hlen
    have c1 := (hD.m.cell 0).trans (show _ = some (.int .i64 (m : Int)) from rfl)
    have c2 := (hD.l.cell 0).trans (show _ = some (.slice S.A S.n S.c) from rfl)
    have c3 := (hD.d.cell 0).trans (show _ = some (.int .i64 (d : Int)) from rfl)
    have f1 := hD.m.frozen 0
    have f3 := hD.d.frozen 0
    have HD := Lib.hid hD
    clear hD
    by_cases h1 : at_ = m
    · by_cases h2 : m < S.n
      · obtain ⟨b, o, x, hA, hb, hx, hc, hin, hok⟩ := hl.at_ h2
        have hbw : b < w0.heap.size := by omega
        have HO : Hid (outV (nodesOf l) m d v [at_] = outV (nodesOf l) (m + 1) (max d v) (v + 1) x.1.kids) := Lib.hid (by rw [h1]; exact outV_one (nodesOf_at hx))
        rw [HO.out]
        have d1 : (at_ != (m : Int)) = false := by rw [h1]; simp
        have d2 : decide ((S.n : Int) ≤ at_) = false := by simp; omega
        have g1 : 0 ≤ at_ := by omega
        have g2 : at_ < (S.n : Int) := by omega
        have g3 : at_.toNat = m := by omega
        have HIN := Lib.hid hin
        have hn' := hin.max
        have hkn := hin.kn
        unfold maxLen at hn'
        have HC := Lib.hid hc
        have HKN := Lib.hid hkn
        clear hc hin hok hx h1 hkn
        obtain ⟨⟨kd, T, nn, ks⟩, ⟨A', n', c'⟩⟩ := x
        simp only at HIN hn' HC HKN HO ⊢
        have n1 := HD.out.ne
        have n2 := Ne.symm n1
        have HML : Hid (m + 1 ≤ l.length) := Lib.hid (by have := HLE.out; omega)
        go_enter Tryd.func39, Tryd.ntmps39
        go_upto_region 5 with (fail)
        have HD2 : Hid (DB w0 S gm gl gd gf (m + 1) (max d v) ((X.setCell ⟨gm, 0, none⟩ (.int .i64 ((m : Int) + 1))).setCell ⟨gd, 0, none⟩ (.int .i64 (max (d : Int) v)))) := Lib.hid (by
          rw [ret_maxN, show Value.int .i64 ((m : Int) + 1) = .int .i64 ((m + 1 : Nat) : Int) from by congr 1]
          exact (HD.out.setm (m + 1)).setd (max d v))
        clear c1 c2 c3 f1 f3
        generalize (X.setCell ⟨gm, 0, none⟩ (.int .i64 ((m : Int) + 1))).setCell ⟨gd, 0, none⟩ (.int .i64 (max (d : Int) v)) = Y at HD2 ⊢
        have c2 := (HD2.out.l.cell 0).trans (show _ = some (.slice S.A S.n S.c) from rfl)
        have q3 := (HC.out.below HD2.out.bel hbw).c3
        rw [hA] at c2
        go_wp2_with fail
        clear c2 q3 d1 d2
        go_loopw [31] (fun i wr => ∃ (k m' d' : Nat), k ≤ n' ∧ i = .int .i64 k ∧ Hid (DB w0 S gm gl gd gf m' d' wr) ∧ Hid (m + 1 ≤ m') ∧ Hid (m' ≤ l.length) ∧ Hid (outV (nodesOf l) (m + 1) (max d v) (v + 1) ks = outV (nodesOf l) m' d' (v + 1) (ks.drop k))) (fun i _ => n' - (intOf i).toNat)
        case atStart => exact ⟨0, m + 1, max d v, Nat.zero_le _, rfl, HD2, Lib.hid (Nat.le_refl _), HML, Lib.hid rfl⟩
        case round =>
          obtain ⟨k, m', d', hk, rfl, HDr, HM1, HM2, HR⟩ := hrel
          by_cases hlt : k < n'
          · obtain ⟨bk, ok, y, rfl, hbk, hy, hcy⟩ := HIN.out.at_ hlt
            have qk := (HDr.out.bel.cell (p := ⟨bk, ok + k, none⟩) (show bk < w0.heap.size by omega)).trans hcy
            have c5 := (HDr.out.f.cell 0).trans (show _ = some (.func (.func 39) #[] #[.pointer (some ⟨gm, 0, none⟩), .pointer (some ⟨gl, 0, none⟩), .pointer (some ⟨gd, 0, none⟩), .pointer (some ⟨gf, 0, none⟩)]) from rfl)
            have HC5 := Lib.hid (HIH.out wr m' d' (v + 1) y HDr.out (by have := HLN.out; have := HM1.out; omega) (by have := HM1.out; omega))
            have HDK : Hid (ks.drop k = y :: ks.drop (k + 1)) := Lib.hid (by obtain ⟨hkl, e⟩ := List.getElem?_eq_some_iff.1 hy; rw [List.drop_eq_getElem_cons hkl, e])
            have HVV : Hid (v + 1 ≤ 258) := Lib.hid (by have := HLE.out; have := HML.out; omega)
            have hv3 : v ≤ 258 := by have := HVV.out; omega
            clear hcy hy
            cases ho : outV (nodesOf l) m' d' (v + 1) [y] with
            | none =>
              have HR2 : Hid (outV (nodesOf l) (m + 1) (max d v) (v + 1) ks = none) := Lib.hid (by rw [HR.out, HDK.out, outV_cons, ho]; rfl)
              rw [ho] at HC5
              clear ho
              go_wp2_with (go_at_call 39; refine HC5.out.mono ?_; rintro e w5 ⟨rfl, m5, d5, hd5⟩)
              go_ret
              exact met_no HR2.out hd5
            | some z =>
              have HR2 : Hid (outV (nodesOf l) (m + 1) (max d v) (v + 1) ks = outV (nodesOf l) z.1 z.2 (v + 1) (ks.drop (k + 1))) := Lib.hid (by rw [HR.out, HDK.out, outV_cons, ho]; rfl)
              have HZ1 : Hid (m + 1 ≤ z.1) := Lib.hid (by have := outV_le ho; have := HM1.out; omega)
              have HZ2 : Hid (z.1 ≤ l.length) := Lib.hid (by have := outV_len ho (by rw [nodesOf_len]; exact HM2.out); rwa [nodesOf_len] at this)
              rw [ho] at HC5
              clear ho
              go_wp2_with (go_at_call 39; refine HC5.out.mono ?_; rintro e w5 ⟨rfl, hd5⟩)
              go_roundw
              case rel => exact ⟨k + 1, z.1, z.2, by omega, by go_num, Lib.hid hd5, HZ1, HZ2, HR2⟩
              case measure => simp [intOf]; omega
          · have HR2 : Hid (outV (nodesOf l) (m + 1) (max d v) (v + 1) ks = some (m', d')) := Lib.hid (by rw [HR.out, List.drop_of_length_le (by have := HKN.out; omega), outV_nil])
            go_wp2_with fail
            go_ret
            exact met_yes HR2.out HDr.out
      · have hr : outV (nodesOf l) m d v [at_] = none := outV_end (by rw [nodesOf_len]; have := HLE.out; omega)
        rw [hr]
        have d1 : (at_ != (m : Int)) = false := by rw [h1]; simp
        have d2 : decide ((S.n : Int) ≤ at_) = true := by simp; omega
        clear h1 hr
        go_enter Tryd.func39, Tryd.ntmps39
        go_wp2_with fail
        go_ret
        exact met_no rfl HD.out
    · rw [outV_bad h1]
      have d1 : (at_ != (m : Int)) = true := by rw [bne_iff_ne]; exact h1
      clear h1
      go_enter Tryd.func39, Tryd.ntmps39
      go_wp2_with fail
      go_ret
      exact met_no rfl HD.out
end Go.Proofs.YtjlpoigcalfdlaaDoor
namespace Go.Proofs.YtjlpoigcalfdlaaDoor
open Go Go.RowKit Go.Sort
set_option linter.unusedVariables false
theorem run_store_funcH {P : Program} {w : World} {a : Addr} (f : Fn) (r : _) (caps : Array Value) (m : _) : (store a (.func f r caps) m).run P w = stored P w a (.func f r caps) m := run_store P w a _ m rfl
attribute [local go_sem] run_store_funcH
/-- how deep, and whether it is one tree in order -/
def DepthIs (w : World) (r : Option (Nat × Nat)) (n : Nat) (e : Ending) (w' : World) : Prop :=
  Below w.heap.size w w' ∧ ∃ (d : Nat) (b : Bool), e = .returned (.tuple #[.int .i64 d, .bool b]) ∧ match r with
    | some x => b = (x.1 == n) ∧ d = x.2
    | none => b = false
set_option maxRecDepth 20000 in
set_option maxHeartbeats 1600000 in
theorem depth_any (w : World) (hi : Nat) (S : Sl) (l : List (EN × Sl)) (hl : ExIn w hi S l) (hh : hi ≤ w.heap.size) (hn : S.n ≤ 256) :
    Calls Tryd.prog 26 #[.slice S.A S.n S.c] w (DepthIs w (outV (nodesOf l) 0 0 1 [0]) S.n) := by
  have HM1 : ∀ X, DB w S (w.heap.size + 1) w.heap.size (w.heap.size + 1 + 1) (w.heap.size + 1 + 1 + 1) 0 0 X → _ := fun X hX => meet_any w hi S l hl hh hn (w.heap.size + 1) w.heap.size (w.heap.size + 1 + 1) (w.heap.size + 1 + 1 + 1) l.length X 0 0 1 0 hX (by omega) (by omega)
  generalize outV (nodesOf l) 0 0 1 [0] = r at HM1 ⊢
  have HME := Lib.hid HM1
  clear HM1
  have hB3 : Blk ((((w.alloc (.cells #[.slice S.A S.n S.c] 22)).alloc (.cells #[.int .i64 0] 3)).alloc (.cells #[.int .i64 0] 3)).alloc (.cells #[.nilFunc] 83)) (w.heap.size + 1 + 1 + 1) 83 #[.nilFunc] := Blk.new' (by simp)
  have HD : Hid (DB w S (w.heap.size + 1) w.heap.size (w.heap.size + 1 + 1) (w.heap.size + 1 + 1 + 1) 0 0 (((((w.alloc (.cells #[.slice S.A S.n S.c] 22)).alloc (.cells #[.int .i64 0] 3)).alloc (.cells #[.int .i64 0] 3)).alloc (.cells #[.nilFunc] 83)).setCell ⟨w.heap.size + 1 + 1 + 1, 0, none⟩ (.func (.func 39) #[] #[.pointer (some ⟨w.heap.size + 1, 0, none⟩), .pointer (some ⟨w.heap.size, 0, none⟩), .pointer (some ⟨w.heap.size + 1 + 1, 0, none⟩), .pointer (some ⟨w.heap.size + 1 + 1 + 1, 0, none⟩)]))) := Lib.hid (by
    refine ⟨(below_more (below_more (below_more (below_more (Below.refl _ _) _) _) _) _).setCell (p := ⟨w.heap.size + 1 + 1 + 1, 0, none⟩) (by simp; omega) _, ?_, ?_, ?_, ?_, by omega, by omega, by omega⟩
    · exact Blk.far (((Blk.new' (by simp)).alloc _).alloc _) (p := ⟨w.heap.size + 1 + 1 + 1, 0, none⟩) (by simp) _
    · exact Blk.far ((((Blk.new w _ _).alloc _).alloc _).alloc _) (p := ⟨w.heap.size + 1 + 1 + 1, 0, none⟩) (by simp; omega) _
    · exact Blk.far ((Blk.new' (by simp)).alloc _) (p := ⟨w.heap.size + 1 + 1 + 1, 0, none⟩) (by simp) _
    · exact hB3.set_ 0 _)
  have HB3 := Lib.hid hB3
  have HLN : Hid (S.n = l.length) := Lib.hid hl.g.n
  have hm := hl.max
  unfold maxLen at hm
  clear hB3 hl
  go_enter Tryd.func26, Tryd.ntmps26
  go_upto_region 3 with (fail)
  generalize (((w.alloc (.cells #[.slice S.A S.n S.c] 22)).alloc (.cells #[.int .i64 0] 3)).alloc (.cells #[.int .i64 0] 3)).alloc (.cells #[.nilFunc] 83) = X3 at HB3 HD ⊢
  have s0 : X3.cell? ⟨w.heap.size + 1 + 1 + 1, 0, none⟩ = some .nilFunc := (HB3.out.cell 0).trans rfl
  have s1 := HB3.out.frozen 0
  go_upto_region 4 with (fail)
  clear s0 s1 HB3
  generalize X3.setCell ⟨w.heap.size + 1 + 1 + 1, 0, none⟩ _ = X4 at HD ⊢
  have c5 := (HD.out.f.cell 0).trans (show _ = some (.func (.func 39) #[] #[.pointer (some ⟨w.heap.size + 1, 0, none⟩), .pointer (some ⟨w.heap.size, 0, none⟩), .pointer (some ⟨w.heap.size + 1 + 1, 0, none⟩), .pointer (some ⟨w.heap.size + 1 + 1 + 1, 0, none⟩)]) from rfl)
  have HC := Lib.hid (HME.out X4 HD.out)
  clear HME
  cases r with
  | none =>
    go_wp2_with (go_at_call 39; refine HC.out.mono ?_; rintro e w5 ⟨rfl, m5, d5, hd5⟩; have c3 := (hd5.d.cell 0).trans (show _ = some (.int .i64 (d5 : Int)) from rfl); have HD5 := Lib.hid hd5; clear hd5 c5)
    go_ret2
    exact ⟨HD5.out.bel, d5, false, rfl, rfl⟩
  | some x =>
    go_wp2_with (go_at_call 39; refine HC.out.mono ?_; rintro e w5 ⟨rfl, hd5⟩; have c3 := (hd5.d.cell 0).trans (show _ = some (.int .i64 (x.2 : Int)) from rfl); have c1 := (hd5.m.cell 0).trans (show _ = some (.int .i64 (x.1 : Int)) from rfl); have c2 := (hd5.l.cell 0).trans (show _ = some (.slice S.A S.n S.c) from rfl); have HD5 := Lib.hid hd5; clear hd5 c5)
    go_ret2
    exact ⟨HD5.out.bel, x.2, _, rfl, by rw [Bool.eq_iff_iff]; simp; omega, rfl⟩
/-- what Right tells -/
def RightIs (w : World) (k : Int) (e : Ending) (w' : World) : Prop := e = .returned (.int .i64 k) ∧ Below w.heap.size w w'
theorem rightIs {w w' : World} {k k' : Int} (h : k = k') (hb : Below w.heap.size w w') : RightIs w k' (.returned (.int .i64 k)) w' := ⟨by rw [h], hb⟩
set_option maxRecDepth 20000 in
set_option maxHeartbeats 3200000 in
theorem right_x (w : World) (hi : Nat) (A : Option Addr) (n c : Nat) (l : List (EN × Sl)) (hl : ExIn w hi ⟨A, n, c⟩ l) (hh : hi ≤ w.heap.size) (hE : ExprEnv w) :
    Calls Tryd.prog 15 #[.agg #[.slice A n c]] w (RightIs w (rightV (nodesOf l))) := by
  have hX0 := Blk.new w 24 #[.slice A n c]
  have HB0 : Hid (Below w.heap.size w (w.alloc (.cells #[.slice A n c] 24))) := Lib.hid (below_of_alloc _)
  have hm := hl.max
  unfold maxLen at hm
  have HL := Lib.hid hl
  have HN : Hid (n = l.length) := Lib.hid hl.g.n
  clear hl
  by_cases h256 : 256 < n
  · have hr : rightV (nodesOf l) = 4 := by unfold rightV; rw [if_pos (by rw [nodesOf_len]; have := HN.out; omega)]
    rw [hr]
    have d1 : decide ((256 : Int) < (n : Int)) = true := by simp; omega
    clear h256 hr hX0
    go_enter Tryd.func15, Tryd.ntmps15
    go_wp2_with fail
    go_ret
    exact rightIs rfl HB0.out
  · have d1 : decide ((256 : Int) < (n : Int)) = false := by simp; omega
    have hle : n ≤ 256 := by omega
    have HLE : Hid (¬ 256 < (nodesOf l).length) := Lib.hid (by rw [nodesOf_len]; have := HN.out; omega)
    have HBX := Lib.hid hX0
    have HSD : Hid (∀ (x : EN × Sl) Y, x ∈ l → Below w.heap.size w Y → Calls Tryd.prog 25 #[.agg #[.int .i64 x.1.kind, .string x.1.text, .int .i64 x.1.int, .slice x.2.A x.2.n x.2.c]] Y (Tells1 Y (soundB x.1))) := Lib.hid fun x Y hx hY => sound_any x Y (HL.out.ok x hx) (HL.out.g.all x hx).kn ((HL.out.g.all x hx).max) (hE.below hY)
    have HDP : Hid (∀ Y, Below w.heap.size w Y → Calls Tryd.prog 26 #[.slice A n c] Y (DepthIs Y (outV (nodesOf l) 0 0 1 [0]) n)) := Lib.hid fun Y hY => depth_any Y hi ⟨A, n, c⟩ l (HL.out.below (hY.mono hh)) (Nat.le_trans hh hY.size) hle
    clear h256 hX0 hE
    go_enter Tryd.func15, Tryd.ntmps15
    go_wp2_with fail
    go_loopw [14] (fun i wr => ∃ k : Nat, k ≤ n ∧ i = .int .i64 k ∧ Hid (Below w.heap.size w wr) ∧ Hid (Blk wr w.heap.size 24 #[.slice A n c]) ∧ Hid (((nodesOf l).take k).all soundB = true)) (fun i _ => n - (intOf i).toNat)
    case atStart => exact ⟨0, Nat.zero_le _, rfl, HB0, HBX, Lib.hid rfl⟩
    case round =>
      obtain ⟨k, hk, rfl, HB, HX, HK⟩ := hrel
      by_cases hlt : k < n
      · obtain ⟨b, o, x, hA, hb, hx, hc, hin, hok⟩ := HL.out.at_ hlt
        simp only at hA
        subst hA
        have hc' := hc.below HB.out (show b < w.heap.size by omega)
        have c0 := hc'.c0
        have c1 := hc'.c1
        have c2 := hc'.c2
        have c3 := hc'.c3
        have HXM := Lib.hid (List.mem_of_getElem? hx)
        have HXE := Lib.hid (nodesOf_at hx)
        have HSX : Hid (∀ Y, Below w.heap.size w Y → Calls Tryd.prog 25 #[.agg #[.int .i64 x.1.kind, .string x.1.text, .int .i64 x.1.int, .slice x.2.A x.2.n x.2.c]] Y (Tells1 Y (soundB x.1))) := Lib.hid fun Y hY => HSD.out x Y HXM.out hY
        have hsz := HB.out.size
        clear hc hc' hin hok hx hb
        cases hs : soundB x.1 with
        | true =>
          rw [hs] at HSX
          have HK2 : Hid (((nodesOf l).take (k + 1)).all soundB = true) := Lib.hid (by rw [List.take_add_one, HXE.out, List.all_append, HK.out]; simp [hs])
          clear hs
          go_wp2_with (go_at_call 25; refine (HSX.out _ (HB.out.alloc hsz _)).mono ?_; rintro e w2 ⟨rfl, hb2⟩; have HB2 := Lib.hid ((HB.out.alloc hsz _).trans (hb2.mono (by simp; omega))); have HX2 := Lib.hid (((HX.out.alloc _)).after hb2); clear hb2)
          go_roundw
          case rel => exact ⟨k + 1, by omega, by go_num, HB2, HX2, HK2⟩
          case measure => simp [intOf]; omega
        | false =>
          rw [hs] at HSX
          have HR := Lib.hid (right_unsound HLE.out HXE.out hs)
          clear hs
          go_wp2_with (go_at_call 25; refine (HSX.out _ (HB.out.alloc hsz _)).mono ?_; rintro e w2 ⟨rfl, hb2⟩; have HB2 := Lib.hid ((HB.out.alloc hsz _).trans (hb2.mono (by simp; omega))); clear hb2)
          go_ret
          exact rightIs HR.out.symm HB2.out
      · have HA : Hid ((nodesOf l).all soundB = true) := Lib.hid (by have := HK.out; rwa [List.take_of_length_le (by rw [nodesOf_len]; have := HN.out; omega)] at this)
        have HR := Lib.hid (rightV_out (nodesOf l) HLE.out HA.out)
        have HNL : Hid ((nodesOf l).length = n) := Lib.hid (by rw [nodesOf_len]; exact HN.out.symm)
        have c0 := (HX.out.cell 0).trans (show _ = some (.slice A n c) from rfl)
        have HDc := Lib.hid (HDP.out wr HB.out)
        generalize outV (nodesOf l) 0 0 1 [0] = r at HR HDc
        rw [HNL.out] at HR
        cases r with
        | none =>
          go_wp2_with (go_at_call 26; refine HDc.out.mono ?_; rintro e w2 ⟨hb2, d, b, rfl, rfl⟩; have HB2 := Lib.hid (HB.out.trans (hb2.mono HB.out.size)); clear hb2)
          go_ret
          exact rightIs HR.out.symm HB2.out
        | some x =>
          obtain ⟨x1, x2⟩ := x
          by_cases h1 : x1 = n
          · by_cases h2 : 32 < x2
            · have HR2 : Hid (rightV (nodesOf l) = 4) := Lib.hid (by have := HR.out; simp only at this; rw [if_pos h1, if_pos h2] at this; exact this)
              have d2 : decide ((32 : Int) < (x2 : Int)) = true := by simp; omega
              have hq : (x1 == n) = true := by rw [h1]; simp
              clear h1 h2 HR
              go_wp2_with (go_at_call 26; refine HDc.out.mono ?_; rintro e w2 ⟨hb2, d, b, rfl, rfl, rfl⟩; have HB2 := Lib.hid (HB.out.trans (hb2.mono HB.out.size)); clear hb2)
              go_ret
              exact rightIs HR2.out.symm HB2.out
            · have HR2 : Hid (rightV (nodesOf l) = 0) := Lib.hid (by have := HR.out; simp only at this; rw [if_pos h1, if_neg h2] at this; exact this)
              have d2 : decide ((32 : Int) < (x2 : Int)) = false := by simp; omega
              have hq : (x1 == n) = true := by rw [h1]; simp
              clear h1 h2 HR
              go_wp2_with (go_at_call 26; refine HDc.out.mono ?_; rintro e w2 ⟨hb2, d, b, rfl, rfl, rfl⟩; have HB2 := Lib.hid (HB.out.trans (hb2.mono HB.out.size)); clear hb2)
              go_ret
              exact rightIs HR2.out.symm HB2.out
          · have HR2 : Hid (rightV (nodesOf l) = 80) := Lib.hid (by have := HR.out; simp only at this; rw [if_neg h1] at this; exact this)
            have hq : (x1 == n) = false := by rw [beq_eq_false_iff_ne]; exact h1
            clear h1 HR
            go_wp2_with (go_at_call 26; refine HDc.out.mono ?_; rintro e w2 ⟨hb2, d, b, rfl, rfl, rfl⟩; have HB2 := Lib.hid (HB.out.trans (hb2.mono HB.out.size)); clear hb2)
            go_ret
            exact rightIs HR2.out.symm HB2.out
end Go.Proofs.YtjlpoigcalfdlaaDoor

/-
  WALKS: great: how long the lists of a language are.
  WALKS: the law LangSame.
  A MODEL AS AN ARGUMENT: what the reading of it tells of the cells, and how long its lists are.
-/
import Derived.Test.YtpkicajjmkkhnaaZ9
import Derived.Deep.RegionHeld3
import Derived.Test.YtpkicajjmkkhnaaRows
import Derived.Deep.Slices
import Derived.Deep.SlicePairs
import Derived.Deep.Fields
import Derived.ChangeSame
import Derived.ChangeSlices
import Derived.Lib.SmallJoins
import Derived.Carry
namespace Go.Proofs.Ytpkicajjmkkhnaa
open Go Go.RowKit Go.Sort
set_option linter.unusedVariables false
/-- how great the lists of a language may be that is gone through -/
structure FitG (x : LangM) : Prop where
  n : x.us.length + x.cs.length + x.ru.length + x.qs.length + x.es.length + x.ts.length ≤ 1200
  cs : ∀ g ∈ x.cs, g.1.props.length ≤ 20000 ∧ g.1.kids.length ≤ 20000 ∧ g.1.refs.length ≤ 20000
  qs : ∀ g ∈ x.qs, g.ls.length ≤ 20000 ∧ g.rs.length ≤ 20000
  es : ∀ g ∈ x.es, g.1.cells.length ≤ 20000
  ts : ∀ g ∈ x.ts, g.1.cells.length ≤ 20000
/-- what an argument's weight bounds -/
structure Room4 (x : LangM) : Prop where
  u : x.U.n ≤ 140737488355328
  c : x.C.n ≤ 140737488355328
  n : x.N.n ≤ 140737488355328
  q : x.Q.n ≤ 140737488355328
  e : x.E.n ≤ 140737488355328
  t : x.T.n ≤ 140737488355328
  args : ∀ g ∈ x.qs, (∀ p ∈ g.ls, p.1.args.length * 8 ≤ 140737488355328) ∧ ∀ p ∈ g.rs, p.1.args.length * 8 ≤ 140737488355328
def GreatPost (w : World) (x : LangM) (e : Ending) (w' : World) : Prop := ∃ b, e = .returned (.bool b) ∧ Below w.heap.size w w' ∧ (b = false → FitG x)
theorem greatT {w w' : World} {x : LangM} {e : Ending} (h : e = .returned (.bool true)) (hb : Below w.heap.size w w') : GreatPost w x e w' := ⟨true, h, hb, fun h => by cases h⟩
theorem all_take_snoc {α : Type} {P : α → Prop} {l : List α} {k : Nat} {x : α} (h : ∀ g ∈ l.take k, P g) (hx : l[k]? = some x) (hp : P x) : ∀ g ∈ l.take (k + 1), P g := by
  intro g hg
  rw [List.take_add_one, hx] at hg
  rcases List.mem_append.1 hg with hg | hg
  · exact h g hg
  · rw [Option.toList_some, List.mem_singleton] at hg; rw [hg]; exact hp
theorem all_take {α : Type} {P : α → Prop} {l : List α} {n : Nat} (h : ∀ g ∈ l.take n, P g) (hn : n = l.length) : ∀ g ∈ l, P g := by
  subst hn
  rwa [List.take_length] at h
set_option maxRecDepth 100000 in
set_option maxHeartbeats 12800000 in
theorem great_any (w : World) (hi : Nat) (x : LangM) (h : LangIn w 0 hi x) (hh : hi ≤ w.heap.size) (hr : Room4 x) : Calls Try.prog 5 #[.agg (langC x).toArray] w (GreatPost w x) := by
  obtain ⟨nm, vr, ⟨Au, nu, cu⟩, us, ⟨Ac, nc, cc⟩, cs, ⟨An, nn, cn⟩, ru, ⟨Aq, nq, cq⟩, qs, ⟨Ae, ne, ce⟩, es, ⟨At, nt, ct⟩, ts⟩ := x
  obtain ⟨hun, hu, hc, hnn, hn, hq, he, ht⟩ := h
  obtain ⟨ru0, rc0, rn0, rq0, re0, rt0, _⟩ := hr
  simp only at hun hu hc hnn hn hq he ht ru0 rc0 rn0 rq0 re0 rt0
  have zu := hu.2.1
  have yu := hu.2.2.1
  have zn := hn.2.1
  have yn := hn.2.2.1
  have zc := hc.row.2.1
  have yc := hc.row.2.2.1
  have HIc := Lib.hid hc
  have HNc := Lib.hid hc.n
  have zq := hq.row.2.1
  have yq := hq.row.2.2.1
  have HIq := Lib.hid hq
  have HNq := Lib.hid hq.n
  have ze := he.row.2.1
  have ye := he.row.2.2.1
  have HIe := Lib.hid he
  have HNe := Lib.hid he.n
  have zt := ht.row.2.1
  have yt := ht.row.2.2.1
  have HIt := Lib.hid ht
  have HNt := Lib.hid ht.n
  simp only at zc yc HNc zq yq HNq ze ye HNe zt yt HNt
  unfold maxLen at yu yn yc yq ye yt
  have HNu := Lib.hid hun
  have HNn := Lib.hid hnn
  clear hun hu hc hnn hn hq he ht
  show Calls _ _ #[.agg #[.string nm, .int .i64 vr, .slice Au nu cu, .slice Ac nc cc, .slice An nn cn, .slice Aq nq cq, .slice Ae ne ce, .slice At nt ct]] _ _
  have HX0 : Hid (Blk (w.alloc (.cells #[.string nm, .int .i64 vr, .slice Au nu cu, .slice Ac nc cc, .slice An nn cn, .slice Aq nq cq, .slice Ae ne ce, .slice At nt ct] 29)) w.heap.size 29 #[.string nm, .int .i64 vr, .slice Au nu cu, .slice Ac nc cc, .slice An nn cn, .slice Aq nq cq, .slice Ae ne ce, .slice At nt ct]) := Lib.hid (Blk.new _ _ _)
  have HB0 : Hid (Below w.heap.size w (w.alloc (.cells #[.string nm, .int .i64 vr, .slice Au nu cu, .slice Ac nc cc, .slice An nn cn, .slice Aq nq cq, .slice Ae ne ce, .slice At nt ct] 29))) := Lib.hid (below_more (Below.refl _ _) _)
  by_cases hG : (1200 : Int) < (nu : Int) + (nc : Int) + (nn : Int) + (nq : Int) + (ne : Int) + (nt : Int)
  · go_enter Try.func5, Try.ntmps5
    go_wp2_with fail
    go_ret
    exact greatT rfl HB0.out
  go_enter Try.func5, Try.ntmps5
  go_wp2_with fail
  go_loopw [3, 4] (fun lf i wr => ∃ (L : Int) (k : Nat), lf = .int .i64 L ∧ i = .int .i64 k ∧ k ≤ nc ∧ 0 ≤ L ∧ L ≤ 20000 ∧ Hid (Blk wr w.heap.size 29 #[.string nm, .int .i64 vr, .slice Au nu cu, .slice Ac nc cc, .slice An nn cn, .slice Aq nq cq, .slice Ae ne ce, .slice At nt ct]) ∧ Hid (Below w.heap.size w wr) ∧ Hid (∀ g ∈ cs.take k, (fun g : ConD × Leaf => g.1.props.length ≤ 20000 ∧ g.1.kids.length ≤ 20000 ∧ g.1.refs.length ≤ 20000) g)) (fun _ i _ => nc - (intOf i).toNat)
  case atStart => exact ⟨20000, 0, rfl, rfl, Nat.zero_le _, by omega, by omega, Lib.hid HX0.out, Lib.hid HB0.out, Lib.hid (by intro g hg; simp at hg)⟩
  case round =>
    obtain ⟨L, k, rfl, rfl, hk, hL0, hL1, HX, HB, HA⟩ := hrel
    have pf := (HX.out.cell 3).trans (show _ = some (.slice Ac nc cc) from rfl)
    have hsz := HB.out.size
    by_cases hlt : k < nc
    · obtain ⟨b, o, hA, _, hb, V⟩ := HIc.out.at_ (fun _ => rfl) (show 0 < nc by omega)
      simp only at hA
      subst hA
      obtain ⟨x, hx⟩ : ∃ x, cs[k]? = some x := ⟨cs[k]'(by have := HNc.out; omega), List.getElem?_eq_getElem _⟩
      obtain ⟨hlf, hat⟩ := V k x hx
      obtain ⟨⟨x1, x2, x3, xp, xk, xr⟩, ⟨⟨Ap, np, cp⟩, ⟨Ak, nk, ck⟩, ⟨Ar, nr, cr⟩⟩⟩ := x
      have q0 : wr.cell? ⟨b, o + k * 6, none⟩ = some (.string x1) := (HB.out.cell (p := ⟨_, _, none⟩) (show b < w.heap.size by omega)).trans (hat 0 _ (by omega) rfl)
      have q1 : wr.cell? ⟨b, o + k * 6 + 1, none⟩ = some (.string x2) := (HB.out.cell (p := ⟨_, _, none⟩) (show b < w.heap.size by omega)).trans (hat 1 _ (by omega) rfl)
      have q2 : wr.cell? ⟨b, o + k * 6 + 2, none⟩ = some (.bool x3) := (HB.out.cell (p := ⟨_, _, none⟩) (show b < w.heap.size by omega)).trans (hat 2 _ (by omega) rfl)
      have q3 : wr.cell? ⟨b, o + k * 6 + 3, none⟩ = some (.slice Ap np cp) := (HB.out.cell (p := ⟨_, _, none⟩) (show b < w.heap.size by omega)).trans (hat 3 _ (by omega) rfl)
      have q4 : wr.cell? ⟨b, o + k * 6 + 4, none⟩ = some (.slice Ak nk ck) := (HB.out.cell (p := ⟨_, _, none⟩) (show b < w.heap.size by omega)).trans (hat 4 _ (by omega) rfl)
      have q5 : wr.cell? ⟨b, o + k * 6 + 5, none⟩ = some (.slice Ar nr cr) := (HB.out.cell (p := ⟨_, _, none⟩) (show b < w.heap.size by omega)).trans (hat 5 _ (by omega) rfl)
      have e0 : Hid (np = xp.length) := Lib.hid hlf.pn
      have g0 : np ≤ _ := (hlf.p).2.1
      have f0 := (hlf.p).2.2.1
      unfold maxLen at f0
      have e1 : Hid (nk = xk.length) := Lib.hid hlf.kn
      have g1 : nk ≤ _ := (hlf.k).2.1
      have f1 := (hlf.k).2.2.1
      unfold maxLen at f1
      have e2 : Hid (nr = xr.length) := Lib.hid hlf.rn
      have g2 : nr ≤ _ := (hlf.r).2.1
      have f2 := (hlf.r).2.2.1
      unfold maxLen at f2
      clear hlf hat V
      by_cases w0 : L < (np : Int)
      · go_wp2_with fail
        go_ret
        exact greatT rfl (HB.out.alloc hsz _)
      by_cases w1 : L - (np : Int) < (nk : Int)
      · go_wp2_with fail
        go_ret
        exact greatT rfl (HB.out.alloc hsz _)
      by_cases w2 : L - (np : Int) - (nk : Int) < (nr : Int)
      · go_wp2_with fail
        go_ret
        exact greatT rfl (HB.out.alloc hsz _)
      have HX2 := Lib.hid (HX.out.alloc (.cells #[.string x1, .string x2, .bool x3, .slice Ap np cp, .slice Ak nk ck, .slice Ar nr cr] 38))
      have HB2 := Lib.hid (HB.out.alloc hsz (.cells #[.string x1, .string x2, .bool x3, .slice Ap np cp, .slice Ak nk ck, .slice Ar nr cr] 38))
      have HA2 := Lib.hid (all_take_snoc HA.out hx (show xp.length ≤ 20000 ∧ xk.length ≤ 20000 ∧ xr.length ≤ 20000 from ⟨by have := e0.out; omega, by have := e1.out; omega, by have := e2.out; omega⟩))
      go_wp2_with fail
      go_roundw
      case rel => exact ⟨L - (np : Int) - (nk : Int) - (nr : Int), k + 1, by first | rfl | go_num, by go_num, by omega, by omega, by omega, HX2, HB2, HA2⟩
      case measure => simp [intOf]; omega
    · have hkn : k = nc := by omega
      rw [hkn] at HA
      have HAc : Hid (∀ g ∈ cs, (fun g : ConD × Leaf => g.1.props.length ≤ 20000 ∧ g.1.kids.length ≤ 20000 ∧ g.1.refs.length ≤ 20000) g) := Lib.hid (all_take HA.out HNc.out)
      clear HA
      go_wp2_with fail
      obtain ⟨LL, hLL⟩ : ∃ LL, LL = L := ⟨_, rfl⟩
      rw [← hLL] at hL0 hL1 ⊢
      clear hLL pf hlt hk
      obtain ⟨wq, hwq⟩ : ∃ wq, wq = wr := ⟨_, rfl⟩
      rw [← hwq] at HX HB hsz ⊢
      clear hwq
      go_loopw [3, 6] (fun lf i wr => ∃ (L : Int) (k : Nat), lf = .int .i64 L ∧ i = .int .i64 k ∧ k ≤ nq ∧ 0 ≤ L ∧ L ≤ 20000 ∧ Hid (Blk wr w.heap.size 29 #[.string nm, .int .i64 vr, .slice Au nu cu, .slice Ac nc cc, .slice An nn cn, .slice Aq nq cq, .slice Ae ne ce, .slice At nt ct]) ∧ Hid (Below w.heap.size w wr) ∧ Hid (∀ g ∈ qs.take k, (fun g : EqM => g.ls.length ≤ 20000 ∧ g.rs.length ≤ 20000) g)) (fun _ i _ => nq - (intOf i).toNat)
      case atStart => exact ⟨LL, 0, rfl, rfl, Nat.zero_le _, by omega, by omega, Lib.hid HX.out, Lib.hid HB.out, Lib.hid (by intro g hg; simp at hg)⟩
      case round =>
        obtain ⟨L, k, rfl, rfl, hk, hL0, hL1, HX, HB, HA⟩ := hrel
        have pf := (HX.out.cell 5).trans (show _ = some (.slice Aq nq cq) from rfl)
        have hsz := HB.out.size
        by_cases hlt : k < nq
        · obtain ⟨b, o, hA, _, hb, V⟩ := HIq.out.at_ (fun _ => rfl) (show 0 < nq by omega)
          simp only at hA
          subst hA
          obtain ⟨x, hx⟩ : ∃ x, qs[k]? = some x := ⟨qs[k]'(by have := HNq.out; omega), List.getElem?_eq_getElem _⟩
          obtain ⟨hlf, hat⟩ := V k x hx
          obtain ⟨x1, ⟨Al, nl, cl⟩, xl, ⟨Ar, nr, cr⟩, xr⟩ := x
          have q0 : wr.cell? ⟨b, o + k * 3, none⟩ = some (.string x1) := (HB.out.cell (p := ⟨_, _, none⟩) (show b < w.heap.size by omega)).trans (hat 0 _ (by omega) rfl)
          have q1 : wr.cell? ⟨b, o + k * 3 + 1, none⟩ = some (.slice Al nl cl) := (HB.out.cell (p := ⟨_, _, none⟩) (show b < w.heap.size by omega)).trans (hat 1 _ (by omega) rfl)
          have q2 : wr.cell? ⟨b, o + k * 3 + 2, none⟩ = some (.slice Ar nr cr) := (HB.out.cell (p := ⟨_, _, none⟩) (show b < w.heap.size by omega)).trans (hat 2 _ (by omega) rfl)
          have e0 : Hid (nl = xl.length) := Lib.hid hlf.l.n
          have g0 : nl ≤ _ := (hlf.l.row).2.1
          have f0 := (hlf.l.row).2.2.1
          unfold maxLen at f0
          have e1 : Hid (nr = xr.length) := Lib.hid hlf.r.n
          have g1 : nr ≤ _ := (hlf.r.row).2.1
          have f1 := (hlf.r.row).2.2.1
          unfold maxLen at f1
          clear hlf hat V
          by_cases w0 : L < (nl : Int)
          · go_wp2_with fail
            go_ret
            exact greatT rfl (HB.out.alloc hsz _)
          by_cases w1 : L - (nl : Int) < (nr : Int)
          · go_wp2_with fail
            go_ret
            exact greatT rfl (HB.out.alloc hsz _)
          have HX2 := Lib.hid (HX.out.alloc (.cells #[.string x1, .slice Al nl cl, .slice Ar nr cr] 53))
          have HB2 := Lib.hid (HB.out.alloc hsz (.cells #[.string x1, .slice Al nl cl, .slice Ar nr cr] 53))
          have HA2 := Lib.hid (all_take_snoc HA.out hx (show xl.length ≤ 20000 ∧ xr.length ≤ 20000 from ⟨by have := e0.out; omega, by have := e1.out; omega⟩))
          go_wp2_with fail
          go_roundw
          case rel => exact ⟨L - (nl : Int) - (nr : Int), k + 1, by first | rfl | go_num, by go_num, by omega, by omega, by omega, HX2, HB2, HA2⟩
          case measure => simp [intOf]; omega
        · have hkn : k = nq := by omega
          rw [hkn] at HA
          have HAq : Hid (∀ g ∈ qs, (fun g : EqM => g.ls.length ≤ 20000 ∧ g.rs.length ≤ 20000) g) := Lib.hid (all_take HA.out HNq.out)
          clear HA
          go_wp2_with fail
          obtain ⟨LL, hLL⟩ : ∃ LL, LL = L := ⟨_, rfl⟩
          rw [← hLL] at hL0 hL1 ⊢
          clear hLL pf hlt hk
          obtain ⟨wq, hwq⟩ : ∃ wq, wq = wr := ⟨_, rfl⟩
          rw [← hwq] at HX HB hsz ⊢
          clear hwq
          go_loopw [3, 8] (fun lf i wr => ∃ (L : Int) (k : Nat), lf = .int .i64 L ∧ i = .int .i64 k ∧ k ≤ ne ∧ 0 ≤ L ∧ L ≤ 20000 ∧ Hid (Blk wr w.heap.size 29 #[.string nm, .int .i64 vr, .slice Au nu cu, .slice Ac nc cc, .slice An nn cn, .slice Aq nq cq, .slice Ae ne ce, .slice At nt ct]) ∧ Hid (Below w.heap.size w wr) ∧ Hid (∀ g ∈ es.take k, (fun g : RowD × Sl => g.1.cells.length ≤ 20000) g)) (fun _ i _ => ne - (intOf i).toNat)
          case atStart => exact ⟨LL, 0, rfl, rfl, Nat.zero_le _, by omega, by omega, Lib.hid HX.out, Lib.hid HB.out, Lib.hid (by intro g hg; simp at hg)⟩
          case round =>
            obtain ⟨L, k, rfl, rfl, hk, hL0, hL1, HX, HB, HA⟩ := hrel
            have pf := (HX.out.cell 6).trans (show _ = some (.slice Ae ne ce) from rfl)
            have hsz := HB.out.size
            by_cases hlt : k < ne
            · obtain ⟨b, o, hA, _, hb, V⟩ := HIe.out.at_ (fun _ => rfl) (show 0 < ne by omega)
              simp only at hA
              subst hA
              obtain ⟨x, hx⟩ : ∃ x, es[k]? = some x := ⟨es[k]'(by have := HNe.out; omega), List.getElem?_eq_getElem _⟩
              obtain ⟨hlf, hat⟩ := V k x hx
              obtain ⟨⟨x1, xc⟩, ⟨Ax, nx, cx⟩⟩ := x
              have q0 : wr.cell? ⟨b, o + k * 2, none⟩ = some (.string x1) := (HB.out.cell (p := ⟨_, _, none⟩) (show b < w.heap.size by omega)).trans (hat 0 _ (by omega) rfl)
              have q1 : wr.cell? ⟨b, o + k * 2 + 1, none⟩ = some (.slice Ax nx cx) := (HB.out.cell (p := ⟨_, _, none⟩) (show b < w.heap.size by omega)).trans (hat 1 _ (by omega) rfl)
              have e0 : Hid (nx = xc.length) := Lib.hid hlf.qn
              have g0 : nx ≤ _ := (hlf.q).2.1
              have f0 := (hlf.q).2.2.1
              unfold maxLen at f0
              clear hlf hat V
              by_cases w0 : L < (nx : Int)
              · go_wp2_with fail
                go_ret
                exact greatT rfl HB.out
              have HX2 := Lib.hid (HX.out)
              have HB2 := Lib.hid (HB.out)
              have HA2 := Lib.hid (all_take_snoc HA.out hx (show xc.length ≤ 20000 by have := e0.out; omega))
              go_wp2_with fail
              go_roundw
              case rel => exact ⟨L - (nx : Int), k + 1, by first | rfl | go_num, by go_num, by omega, by omega, by omega, HX2, HB2, HA2⟩
              case measure => simp [intOf]; omega
            · have hkn : k = ne := by omega
              rw [hkn] at HA
              have HAe : Hid (∀ g ∈ es, (fun g : RowD × Sl => g.1.cells.length ≤ 20000) g) := Lib.hid (all_take HA.out HNe.out)
              clear HA
              go_wp2_with fail
              obtain ⟨LL, hLL⟩ : ∃ LL, LL = L := ⟨_, rfl⟩
              rw [← hLL] at hL0 hL1 ⊢
              clear hLL pf hlt hk
              obtain ⟨wq, hwq⟩ : ∃ wq, wq = wr := ⟨_, rfl⟩
              rw [← hwq] at HX HB hsz ⊢
              clear hwq
              go_loopw [3, 9] (fun lf i wr => ∃ (L : Int) (k : Nat), lf = .int .i64 L ∧ i = .int .i64 k ∧ k ≤ nt ∧ 0 ≤ L ∧ L ≤ 20000 ∧ Hid (Blk wr w.heap.size 29 #[.string nm, .int .i64 vr, .slice Au nu cu, .slice Ac nc cc, .slice An nn cn, .slice Aq nq cq, .slice Ae ne ce, .slice At nt ct]) ∧ Hid (Below w.heap.size w wr) ∧ Hid (∀ g ∈ ts.take k, (fun g : RowD × Sl => g.1.cells.length ≤ 20000) g)) (fun _ i _ => nt - (intOf i).toNat)
              case atStart => exact ⟨LL, 0, rfl, rfl, Nat.zero_le _, by omega, by omega, Lib.hid HX.out, Lib.hid HB.out, Lib.hid (by intro g hg; simp at hg)⟩
              case round =>
                obtain ⟨L, k, rfl, rfl, hk, hL0, hL1, HX, HB, HA⟩ := hrel
                have pf := (HX.out.cell 7).trans (show _ = some (.slice At nt ct) from rfl)
                have hsz := HB.out.size
                by_cases hlt : k < nt
                · obtain ⟨b, o, hA, _, hb, V⟩ := HIt.out.at_ (fun _ => rfl) (show 0 < nt by omega)
                  simp only at hA
                  subst hA
                  obtain ⟨x, hx⟩ : ∃ x, ts[k]? = some x := ⟨ts[k]'(by have := HNt.out; omega), List.getElem?_eq_getElem _⟩
                  obtain ⟨hlf, hat⟩ := V k x hx
                  obtain ⟨⟨x1, xc⟩, ⟨Ax, nx, cx⟩⟩ := x
                  have q0 : wr.cell? ⟨b, o + k * 2, none⟩ = some (.string x1) := (HB.out.cell (p := ⟨_, _, none⟩) (show b < w.heap.size by omega)).trans (hat 0 _ (by omega) rfl)
                  have q1 : wr.cell? ⟨b, o + k * 2 + 1, none⟩ = some (.slice Ax nx cx) := (HB.out.cell (p := ⟨_, _, none⟩) (show b < w.heap.size by omega)).trans (hat 1 _ (by omega) rfl)
                  have e0 : Hid (nx = xc.length) := Lib.hid hlf.qn
                  have g0 : nx ≤ _ := (hlf.q).2.1
                  have f0 := (hlf.q).2.2.1
                  unfold maxLen at f0
                  clear hlf hat V
                  by_cases w0 : L < (nx : Int)
                  · go_wp2_with fail
                    go_ret
                    exact greatT rfl HB.out
                  have HX2 := Lib.hid (HX.out)
                  have HB2 := Lib.hid (HB.out)
                  have HA2 := Lib.hid (all_take_snoc HA.out hx (show xc.length ≤ 20000 by have := e0.out; omega))
                  go_wp2_with fail
                  go_roundw
                  case rel => exact ⟨L - (nx : Int), k + 1, by first | rfl | go_num, by go_num, by omega, by omega, by omega, HX2, HB2, HA2⟩
                  case measure => simp [intOf]; omega
                · have hkn : k = nt := by omega
                  rw [hkn] at HA
                  have HAt : Hid (∀ g ∈ ts, (fun g : RowD × Sl => g.1.cells.length ≤ 20000) g) := Lib.hid (all_take HA.out HNt.out)
                  clear HA
                  go_wp2_with fail
                  go_ret
                  have eu := HNu.out
                  have en := HNn.out
                  have ec := HNc.out
                  have eq := HNq.out
                  have ee := HNe.out
                  have et := HNt.out
                  exact ⟨false, rfl, HB.out, fun _ => ⟨by simp only; omega, HAc.out, HAq.out, HAe.out, HAt.out⟩⟩
end Go.Proofs.Ytpkicajjmkkhnaa
namespace Go.Proofs.Ytpkicajjmkkhnaa
open Go Go.RowKit Go.Sort
set_option linter.unusedVariables false
attribute [local go_sem ↓] Go.wp_at_zero Go.wp_at_succ
theorem Fit4.of {x : LangM} (h : FitG x) (hr : Room4 x) : Fit4 x := by
  have hn := h.n
  exact ⟨by omega, by omega, by omega, by omega, by omega, by omega, h.cs, fun g hg => ⟨(h.qs g hg).1, (h.qs g hg).2, (hr.args g hg).1, (hr.args g hg).2⟩, h.es, h.ts⟩
set_option maxRecDepth 100000 in
set_option maxHeartbeats 12800000 in
theorem langSame_any (w : World) (hi : Nat) (x y : LangM) (hx : LangIn w 0 hi x) (hy : LangIn w 0 hi y) (hh : hi ≤ w.heap.size) (hrx : Room4 x) (hry : Room4 y) : Calls Try.prog 3 #[.agg #[.string x.name, .int .i64 x.ver, .slice x.U.A x.U.n x.U.c, .slice x.C.A x.C.n x.C.c, .slice x.N.A x.N.n x.N.c, .slice x.Q.A x.Q.n x.Q.c, .slice x.E.A x.E.n x.E.c, .slice x.T.A x.T.n x.T.c], .agg #[.string y.name, .int .i64 y.ver, .slice y.U.A y.U.n y.U.c, .slice y.C.A y.C.n y.C.c, .slice y.N.A y.N.n y.N.c, .slice y.Q.A y.Q.n y.Q.c, .slice y.E.A y.E.n y.E.c, .slice y.T.A y.T.n y.T.c]] w (Ret w (.bool true)) := by
  have HI : Hid (∀ Y, Below w.heap.size w Y → LangIn Y 0 Y.heap.size x ∧ LangIn Y 0 Y.heap.size y) := Lib.hid fun Y hb => ⟨langK.mono (langK.below hx (hb.mono hh)) (Nat.le_refl _) (Nat.le_trans hh hb.size), langK.mono (langK.below hy (hb.mono hh)) (Nat.le_refl _) (Nat.le_trans hh hb.size)⟩
  have HGx : Hid (∀ Y, Below w.heap.size w Y → Calls Try.prog 5 #[.agg #[.string x.name, .int .i64 x.ver, .slice x.U.A x.U.n x.U.c, .slice x.C.A x.C.n x.C.c, .slice x.N.A x.N.n x.N.c, .slice x.Q.A x.Q.n x.Q.c, .slice x.E.A x.E.n x.E.c, .slice x.T.A x.T.n x.T.c]] Y (GreatPost Y x)) := Lib.hid fun Y hb => great_any Y _ x (HI.out Y hb).1 (Nat.le_refl _) hrx
  have HTx : FitG x → Hid (∀ Y, Below w.heap.size w Y → Calls Try.prog 8 #[.agg #[.string x.name, .int .i64 x.ver, .slice x.U.A x.U.n x.U.c, .slice x.C.A x.C.n x.C.c, .slice x.N.A x.N.n x.N.c, .slice x.Q.A x.Q.n x.Q.c, .slice x.E.A x.E.n x.E.c, .slice x.T.A x.T.n x.T.c]] Y (TwinPost4 Y x)) := fun hf => Lib.hid fun Y hb => twin4_any Y _ x (HI.out Y hb).1 (Nat.le_refl _) (Fit4.of hf hrx)
  have HGy : Hid (∀ Y, Below w.heap.size w Y → Calls Try.prog 5 #[.agg #[.string y.name, .int .i64 y.ver, .slice y.U.A y.U.n y.U.c, .slice y.C.A y.C.n y.C.c, .slice y.N.A y.N.n y.N.c, .slice y.Q.A y.Q.n y.Q.c, .slice y.E.A y.E.n y.E.c, .slice y.T.A y.T.n y.T.c]] Y (GreatPost Y y)) := Lib.hid fun Y hb => great_any Y _ y (HI.out Y hb).2 (Nat.le_refl _) hry
  have HTy : FitG y → Hid (∀ Y, Below w.heap.size w Y → Calls Try.prog 8 #[.agg #[.string y.name, .int .i64 y.ver, .slice y.U.A y.U.n y.U.c, .slice y.C.A y.C.n y.C.c, .slice y.N.A y.N.n y.N.c, .slice y.Q.A y.Q.n y.Q.c, .slice y.E.A y.E.n y.E.c, .slice y.T.A y.T.n y.T.c]] Y (TwinPost4 Y y)) := fun hf => Lib.hid fun Y hb => twin4_any Y _ y (HI.out Y hb).2 (Nat.le_refl _) (Fit4.of hf hry)
  obtain ⟨E, hE⟩ : ∃ E, langEM x y = E := ⟨_, rfl⟩
  have HP1 : Hid (∀ Y, Below w.heap.size w Y → Calls Try.prog 6 #[.agg #[.string x.name, .int .i64 x.ver, .slice x.U.A x.U.n x.U.c, .slice x.C.A x.C.n x.C.c, .slice x.N.A x.N.n x.N.c, .slice x.Q.A x.Q.n x.Q.c, .slice x.E.A x.E.n x.E.c, .slice x.T.A x.T.n x.T.c], .agg #[.string y.name, .int .i64 y.ver, .slice y.U.A y.U.n y.U.c, .slice y.C.A y.C.n y.C.c, .slice y.N.A y.N.n y.N.c, .slice y.Q.A y.Q.n y.Q.c, .slice y.E.A y.E.n y.E.c, .slice y.T.A y.T.n y.T.c]] Y (Ret Y (.bool E))) := Lib.hid fun Y hb => by rw [← hE]; exact same_lang_any Y _ x y (HI.out Y hb).1 (HI.out Y hb).2 (Nat.le_refl _)
  have HP2 : Hid (∀ Y, Below w.heap.size w Y → Calls Try.prog 6 #[.agg #[.string y.name, .int .i64 y.ver, .slice y.U.A y.U.n y.U.c, .slice y.C.A y.C.n y.C.c, .slice y.N.A y.N.n y.N.c, .slice y.Q.A y.Q.n y.Q.c, .slice y.E.A y.E.n y.E.c, .slice y.T.A y.T.n y.T.c], .agg #[.string x.name, .int .i64 x.ver, .slice x.U.A x.U.n x.U.c, .slice x.C.A x.C.n x.C.c, .slice x.N.A x.N.n x.N.c, .slice x.Q.A x.Q.n x.Q.c, .slice x.E.A x.E.n x.E.c, .slice x.T.A x.T.n x.T.c]] Y (Ret Y (.bool E))) := Lib.hid fun Y hb => by rw [← hE, langEM_symm x y]; exact same_lang_any Y _ y x (HI.out Y hb).2 (HI.out Y hb).1 (Nat.le_refl _)
  have HR1 : Hid (∀ Y, Below w.heap.size w Y → Calls Try.prog 7 #[.agg #[.string x.name, .int .i64 x.ver, .slice x.U.A x.U.n x.U.c, .slice x.C.A x.C.n x.C.c, .slice x.N.A x.N.n x.N.c, .slice x.Q.A x.Q.n x.Q.c, .slice x.E.A x.E.n x.E.c, .slice x.T.A x.T.n x.T.c], .agg #[.string y.name, .int .i64 y.ver, .slice y.U.A y.U.n y.U.c, .slice y.C.A y.C.n y.C.c, .slice y.N.A y.N.n y.N.c, .slice y.Q.A y.Q.n y.Q.c, .slice y.E.A y.E.n y.E.c, .slice y.T.A y.T.n y.T.c]] Y (Ret Y (.bool E))) := Lib.hid fun Y hb => by rw [← hE]; exact refSame4_any Y _ x y (HI.out Y hb).1 (HI.out Y hb).2 (Nat.le_refl _)
  have HQ1 : Hid (∀ Y z, Below w.heap.size w Y → LangIn Y 0 Y.heap.size z → langEM x z = true → Calls Try.prog 6 #[.agg #[.string x.name, .int .i64 x.ver, .slice x.U.A x.U.n x.U.c, .slice x.C.A x.C.n x.C.c, .slice x.N.A x.N.n x.N.c, .slice x.Q.A x.Q.n x.Q.c, .slice x.E.A x.E.n x.E.c, .slice x.T.A x.T.n x.T.c], .agg #[.string z.name, .int .i64 z.ver, .slice z.U.A z.U.n z.U.c, .slice z.C.A z.C.n z.C.c, .slice z.N.A z.N.n z.N.c, .slice z.Q.A z.Q.n z.Q.c, .slice z.E.A z.E.n z.E.c, .slice z.T.A z.T.n z.T.c]] Y (Ret Y (.bool true))) := Lib.hid fun Y z hb hz he => by rw [← he]; exact same_lang_any Y _ x z ((HI.out Y hb).1) (hz) (Nat.le_refl _)
  have HQ2 : Hid (∀ Y z, Below w.heap.size w Y → LangIn Y 0 Y.heap.size z → langEM y z = true → Calls Try.prog 6 #[.agg #[.string z.name, .int .i64 z.ver, .slice z.U.A z.U.n z.U.c, .slice z.C.A z.C.n z.C.c, .slice z.N.A z.N.n z.N.c, .slice z.Q.A z.Q.n z.Q.c, .slice z.E.A z.E.n z.E.c, .slice z.T.A z.T.n z.T.c], .agg #[.string y.name, .int .i64 y.ver, .slice y.U.A y.U.n y.U.c, .slice y.C.A y.C.n y.C.c, .slice y.N.A y.N.n y.N.c, .slice y.Q.A y.Q.n y.Q.c, .slice y.E.A y.E.n y.E.c, .slice y.T.A y.T.n y.T.c]] Y (Ret Y (.bool true))) := Lib.hid fun Y z hb hz he => by rw [← he, langEM_symm y z]; exact same_lang_any Y _ z y (hz) ((HI.out Y hb).2) (Nat.le_refl _)
  clear hx hy hh hrx hry hE
  have HQ0 : Hid (B2 w 29 #[.string x.name, .int .i64 x.ver, .slice x.U.A x.U.n x.U.c, .slice x.C.A x.C.n x.C.c, .slice x.N.A x.N.n x.N.c, .slice x.Q.A x.Q.n x.Q.c, .slice x.E.A x.E.n x.E.c, .slice x.T.A x.T.n x.T.c] #[.string y.name, .int .i64 y.ver, .slice y.U.A y.U.n y.U.c, .slice y.C.A y.C.n y.C.c, .slice y.N.A y.N.n y.N.c, .slice y.Q.A y.Q.n y.Q.c, .slice y.E.A y.E.n y.E.c, .slice y.T.A y.T.n y.T.c] ((w.alloc (.cells #[.string x.name, .int .i64 x.ver, .slice x.U.A x.U.n x.U.c, .slice x.C.A x.C.n x.C.c, .slice x.N.A x.N.n x.N.c, .slice x.Q.A x.Q.n x.Q.c, .slice x.E.A x.E.n x.E.c, .slice x.T.A x.T.n x.T.c] 29)).alloc (.cells #[.string y.name, .int .i64 y.ver, .slice y.U.A y.U.n y.U.c, .slice y.C.A y.C.n y.C.c, .slice y.N.A y.N.n y.N.c, .slice y.Q.A y.Q.n y.Q.c, .slice y.E.A y.E.n y.E.c, .slice y.T.A y.T.n y.T.c] 29))) := Lib.hid (B2.start _ _ _ _)
  go_enter Try.func3, Try.ntmps3
  go_wp2_with fail
  refine (HGx.out _ HQ0.out.bel).mono ?_
  rintro e w1 ⟨b1, rfl, hb1, hf1⟩
  have HQ1 := Lib.hid (HQ0.out.after hb1)
  clear hb1
  cases b1 with
  | true =>
    go_wp2_with fail
    go_ret
    exact ⟨rfl, HQ1.out.bel⟩
  | false =>
    have r0 := (HQ1.out.b.cell 0).trans (show _ = some (.string y.name) from rfl)
    have r1 := (HQ1.out.b.cell 1).trans (show _ = some (.int .i64 y.ver) from rfl)
    have r2 := (HQ1.out.b.cell 2).trans (show _ = some (.slice y.U.A y.U.n y.U.c) from rfl)
    have r3 := (HQ1.out.b.cell 3).trans (show _ = some (.slice y.C.A y.C.n y.C.c) from rfl)
    have r4 := (HQ1.out.b.cell 4).trans (show _ = some (.slice y.N.A y.N.n y.N.c) from rfl)
    have r5 := (HQ1.out.b.cell 5).trans (show _ = some (.slice y.Q.A y.Q.n y.Q.c) from rfl)
    have r6 := (HQ1.out.b.cell 6).trans (show _ = some (.slice y.E.A y.E.n y.E.c) from rfl)
    have r7 := (HQ1.out.b.cell 7).trans (show _ = some (.slice y.T.A y.T.n y.T.c) from rfl)
    go_wp2_with fail
    clear r0 r1 r2 r3 r4 r5 r6 r7
    refine (HGy.out _ HQ1.out.bel).mono ?_
    rintro e wr ⟨b2, rfl, hb2, hf2⟩
    have HQ := Lib.hid (HQ1.out.after hb2)
    clear hb2
    cases b2 with
    | true =>
      go_wp2_with fail
      go_ret
      exact ⟨rfl, HQ.out.bel⟩
    | false =>
      replace HTx := HTx (hf1 (by simp))
      replace HTy := HTy (hf2 (by simp))
      clear hf1 hf2 HGx HGy HQ0 HQ1
      have HSo : Hid (∀ X : World, Below wr.heap.size wr X → (X.cell? ⟨w.heap.size, 0, none⟩ = some (.string x.name) ∧ X.cell? ⟨w.heap.size, 1, none⟩ = some (.int .i64 x.ver) ∧ X.cell? ⟨w.heap.size, 2, none⟩ = some (.slice x.U.A x.U.n x.U.c) ∧ X.cell? ⟨w.heap.size, 3, none⟩ = some (.slice x.C.A x.C.n x.C.c) ∧ X.cell? ⟨w.heap.size, 4, none⟩ = some (.slice x.N.A x.N.n x.N.c) ∧ X.cell? ⟨w.heap.size, 5, none⟩ = some (.slice x.Q.A x.Q.n x.Q.c) ∧ X.cell? ⟨w.heap.size, 6, none⟩ = some (.slice x.E.A x.E.n x.E.c) ∧ X.cell? ⟨w.heap.size, 7, none⟩ = some (.slice x.T.A x.T.n x.T.c) ∧ X.cell? ⟨w.heap.size + 1, 0, none⟩ = some (.string y.name) ∧ X.cell? ⟨w.heap.size + 1, 1, none⟩ = some (.int .i64 y.ver) ∧ X.cell? ⟨w.heap.size + 1, 2, none⟩ = some (.slice y.U.A y.U.n y.U.c) ∧ X.cell? ⟨w.heap.size + 1, 3, none⟩ = some (.slice y.C.A y.C.n y.C.c) ∧ X.cell? ⟨w.heap.size + 1, 4, none⟩ = some (.slice y.N.A y.N.n y.N.c) ∧ X.cell? ⟨w.heap.size + 1, 5, none⟩ = some (.slice y.Q.A y.Q.n y.Q.c) ∧ X.cell? ⟨w.heap.size + 1, 6, none⟩ = some (.slice y.E.A y.E.n y.E.c) ∧ X.cell? ⟨w.heap.size + 1, 7, none⟩ = some (.slice y.T.A y.T.n y.T.c))) := Lib.hid fun X hX => ⟨((HQ.out.after hX).a.cell 0).trans rfl, ((HQ.out.after hX).a.cell 1).trans rfl, ((HQ.out.after hX).a.cell 2).trans rfl, ((HQ.out.after hX).a.cell 3).trans rfl, ((HQ.out.after hX).a.cell 4).trans rfl, ((HQ.out.after hX).a.cell 5).trans rfl, ((HQ.out.after hX).a.cell 6).trans rfl, ((HQ.out.after hX).a.cell 7).trans rfl, ((HQ.out.after hX).b.cell 0).trans rfl, ((HQ.out.after hX).b.cell 1).trans rfl, ((HQ.out.after hX).b.cell 2).trans rfl, ((HQ.out.after hX).b.cell 3).trans rfl, ((HQ.out.after hX).b.cell 4).trans rfl, ((HQ.out.after hX).b.cell 5).trans rfl, ((HQ.out.after hX).b.cell 6).trans rfl, ((HQ.out.after hX).b.cell 7).trans rfl⟩
      have HB0 : Hid (Below wr.heap.size wr wr.drew) := Lib.hid (drew1_below _)
      go_upto_region 3 with (fail)
      go_region_held3 (fun X : World => X.cell? ⟨w.heap.size, 0, none⟩ = some (.string x.name) ∧ X.cell? ⟨w.heap.size, 1, none⟩ = some (.int .i64 x.ver) ∧ X.cell? ⟨w.heap.size, 2, none⟩ = some (.slice x.U.A x.U.n x.U.c) ∧ X.cell? ⟨w.heap.size, 3, none⟩ = some (.slice x.C.A x.C.n x.C.c) ∧ X.cell? ⟨w.heap.size, 4, none⟩ = some (.slice x.N.A x.N.n x.N.c) ∧ X.cell? ⟨w.heap.size, 5, none⟩ = some (.slice x.Q.A x.Q.n x.Q.c) ∧ X.cell? ⟨w.heap.size, 6, none⟩ = some (.slice x.E.A x.E.n x.E.c) ∧ X.cell? ⟨w.heap.size, 7, none⟩ = some (.slice x.T.A x.T.n x.T.c) ∧ X.cell? ⟨w.heap.size + 1, 0, none⟩ = some (.string y.name) ∧ X.cell? ⟨w.heap.size + 1, 1, none⟩ = some (.int .i64 y.ver) ∧ X.cell? ⟨w.heap.size + 1, 2, none⟩ = some (.slice y.U.A y.U.n y.U.c) ∧ X.cell? ⟨w.heap.size + 1, 3, none⟩ = some (.slice y.C.A y.C.n y.C.c) ∧ X.cell? ⟨w.heap.size + 1, 4, none⟩ = some (.slice y.N.A y.N.n y.N.c) ∧ X.cell? ⟨w.heap.size + 1, 5, none⟩ = some (.slice y.Q.A y.Q.n y.Q.c) ∧ X.cell? ⟨w.heap.size + 1, 6, none⟩ = some (.slice y.E.A y.E.n y.E.c) ∧ X.cell? ⟨w.heap.size + 1, 7, none⟩ = some (.slice y.T.A y.T.n y.T.c)) (first | exact HSo.out _ HB8.out | exact HSo.out _ HB7.out | exact HSo.out _ HB6.out | exact HSo.out _ HB5.out | exact HSo.out _ HB4.out | exact HSo.out _ HB3.out | exact HSo.out _ HB2.out | exact HSo.out _ HB1.out | exact HSo.out _ HB0.out) (first | (go_at_call 6; (with_reducible refine (HP1.out _ (HQ.out.after HB0.out).bel).mono ?_); rintro e Y1 ⟨rfl, hb1⟩; have HB1 := Lib.hid (HB0.out.trans (hb1.mono HB0.out.size)); clear hb1) | (go_at_call 7; (with_reducible refine (HR1.out _ (HQ.out.after HB1.out).bel).mono ?_); rintro e Y2 ⟨rfl, hb2⟩; have HB2 := Lib.hid (HB1.out.trans (hb2.mono HB1.out.size)); clear hb2) | (go_at_call 6; (with_reducible refine (HP2.out _ (HQ.out.after HB2.out).bel).mono ?_); rintro e Y3 ⟨rfl, hb3⟩; have HB3 := Lib.hid (HB2.out.trans (hb3.mono HB2.out.size)); clear hb3) | (go_at_call 7; (with_reducible refine (HR1.out _ (HQ.out.after HB3.out).bel).mono ?_); rintro e Y4 ⟨rfl, hb4⟩; have HB4 := Lib.hid (HB3.out.trans (hb4.mono HB3.out.size)); clear hb4) | (go_at_call 8; (with_reducible refine (HTx.out _ (HQ.out.after HB4.out).bel).mono ?_); rintro e Y5 ⟨z, rfl, hz5, he5, hb5⟩; have HZ5 := Lib.hid hz5; have HE5 := Lib.hid he5; have HB5 := Lib.hid (HB4.out.trans (hb5.mono HB4.out.size)); clear hb5 hz5 he5) | (go_at_call 6; (with_reducible refine (HQ1.out _ z (HQ.out.after HB5.out).bel HZ5.out HE5.out).mono ?_); rintro e Y6 ⟨rfl, hb6⟩; have HB6 := Lib.hid (HB5.out.trans (hb6.mono HB5.out.size)); clear hb6) | (go_at_call 8; (with_reducible refine (HTy.out _ (HQ.out.after HB6.out).bel).mono ?_); rintro e Y7 ⟨u, rfl, hz7, he7, hb7⟩; have HZ7 := Lib.hid hz7; have HE7 := Lib.hid he7; have HB7 := Lib.hid (HB6.out.trans (hb7.mono HB6.out.size)); clear hb7 hz7 he7) | (go_at_call 6; (with_reducible refine (HQ2.out _ u (HQ.out.after HB7.out).bel HZ7.out HE7.out).mono ?_); rintro e Y8 ⟨rfl, hb8⟩; have HB8 := Lib.hid (HB7.out.trans (hb8.mono HB7.out.size)); clear hb8))
      go_wp2_with fail
      go_ret
      exact ⟨by first | rfl | (simp; done), (HQ.out.after HB8.out).bel⟩
end Go.Proofs.Ytpkicajjmkkhnaa
namespace Go.Proofs.Ytpkicajjmkkhnaa
open Go Go.RowKit Go.Sort Go.ChangeShapes Go.WideShapes Go.Deep Go.Joins
set_option linter.unusedVariables false
theorem cell_spot {w : World} {a : Addr} {u : Value} (h : w.cell? a = some u) : a.spot = none := by
  unfold World.cell? at h
  split at h
  · split at h
    · cases h
    · rename_i hs
      cases ha : a.spot with
      | none => rfl
      | some k => rw [ha] at hs; simp at hs
  · cases h
theorem add_zero_ (a : Addr) : a.add 0 = a := by unfold Addr.add; simp
theorem addr_plain {a : Addr} (h : a.spot = none) : a = ⟨a.block, a.off, none⟩ := by
  obtain ⟨b, o, s⟩ := a
  obtain rfl : s = none := h
  rfl
/-- cells of an own kind, by the elements' index -/
theorem flat_cells {α : Type} {w : World} {f : α → List Value} {s : Nat} (hs : ∀ a, (f a).length = s) (h0 : 0 < s) (l : List α) (a : Addr)
    (h : ∀ i p, l[i]? = some p → ∀ r u, (f p)[r]? = some u → w.cell? (a.add (i * s + r)) = some u) : ∀ j u, (l.flatMap f)[j]? = some u → w.cell? (a.add j) = some u := by
  intro j u hj
  have hl : j < l.length * s := by rw [← flatN_len hs l]; exact (List.getElem?_eq_some_iff.1 hj).1
  have hd : j / s < l.length := Nat.div_lt_of_lt_mul (by rwa [Nat.mul_comm] at hl)
  have hr : j % s < s := Nat.mod_lt _ h0
  have he : j / s * s + j % s = j := by rw [Nat.mul_comm]; exact Nat.div_add_mod j s
  have hp : l[j / s]? = some l[j / s] := List.getElem?_eq_getElem hd
  have := h (j / s) _ hp (j % s) u (by rw [← flatN_get hs l (j / s) _ hp _ hr, he]; exact hj)
  rwa [he] at this
theorem row_of {w : World} {base n c size : Nat} {a : Addr} {xs : List Value} (hlen : xs.length = n * size) (h0 : 0 < size) (hn : n ≤ c) (hm : c ≤ maxLen) (hb : base ≤ a.block)
    (hc : ∀ j u, xs[j]? = some u → w.cell? (a.add j) = some u) : Row w base w.heap.size size (some a) n c xs := by
  refine ⟨hlen, hn, hm, fun hp => ?_⟩
  have hl : 0 < xs.length := by rw [hlen]; exact Nat.mul_pos hp h0
  have h1 := hc 0 _ (List.getElem?_eq_getElem hl)
  rw [add_zero_] at h1
  have ha := addr_plain (cell_spot h1)
  have hlt := block_lt_of_cell h1
  refine ⟨a.block, a.off, by rw [← ha], hb, hlt, fun j u hu => ?_⟩
  · have := hc j u hu
    rw [ha, Addr.add_lit] at this; exact this
section
variable {H : Type}
end
section
variable {H : Type} {enc : TypeId × Value → H} {w : World} {base : Nat} {spare : Nat → Bool} {held : Bool}
theorem spare_le {spare : Nat → Bool} {b len cap m : Nat} (hl : len ≤ cap) (hm : m = (if spare b then cap else len)) : len ≤ m := by rw [hm]; split <;> omega
instance ndLeafInhabited : Inhabited (Nd × Leaf) := ⟨(⟨0, ByteArray.empty, 0, ByteArray.empty, [], [], []⟩, ⟨⟨none, 0, 0⟩, ⟨none, 0, 0⟩, ⟨none, 0, 0⟩⟩)⟩
end
section
variable {H : Type} {enc : TypeId × Value → H} {P : Program}
/-- what the row asks behind the call, where all that was there before lies as it lay: the same readings again -/
theorem post_read {f : Func} {s : ChangeSpec} {W W' : World} {args : Array Value} {v : Value} {ds gs : List (DataW H)} {before q : List MemPlace} (hW : DataW.Whole enc P f.params.toList s.vars false W args.toList ds gs before)
    (hres : DataW.TrodAll enc P W' W.heap.size (fun _ => false) false f.resultTypes.toList (v.resultList f.resultTypes.size) (s.fn H (ds ++ gs)).results [])
    (hargs : DataW.TrodAll enc P W' 0 (fun b => decide (b < W.heap.size)) true f.params.toList args.toList (s.fn H (ds ++ gs)).args q)
    (hvars : DataW.TrodVars enc P W' (fun b => decide (b < W.heap.size)) s.vars (s.fn H (ds ++ gs)).vars []) (hb : Below W.heap.size W W') :
    s.post enc P f false true false false W args v W' :=
  ⟨ds, gs, before, [], q, [], hW, hres, hargs, hvars, hb.frame _, fun h => by cases h⟩
end
end Go.Proofs.Ytpkicajjmkkhnaa

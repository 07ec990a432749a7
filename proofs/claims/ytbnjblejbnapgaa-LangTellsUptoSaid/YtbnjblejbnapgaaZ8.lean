/-
  WALKS: great: how long the lists of a language are.
  WALKS: the law LangSame.
  WALKS: the program: a concept, in memory of its own.
  WALKS: the document: a concept.
-/
import Derived.Test.YtbnjblejbnapgaaZ7
import Derived.Deep.RegionHeld3
import Derived.Deep.CutBlock
namespace Go.Proofs.Ytbnjblejbnapgaa
open Go Go.RowKit Go.Sort
set_option linter.unusedVariables false
/-- how great the lists of a language may be that is gone through -/
structure FitG (x : LangM) : Prop where
  n : x.us.length + x.cs.length + x.ru.length + x.qs.length + x.es.length + x.ts.length ≤ 1200
  cs : ∀ g ∈ x.cs, g.1.props.length ≤ 20000 ∧ g.1.kids.length ≤ 20000 ∧ g.1.refs.length ≤ 20000
  qs : ∀ g ∈ x.qs, g.ls.length ≤ 20000 ∧ g.rs.length ≤ 20000
  es : ∀ g ∈ x.es, g.1.cells.length ≤ 20000
  ts : ∀ g ∈ x.ts, g.1.cells.length ≤ 20000
/-- what an argument's weight bounds -/
structure Room4 (x : LangM) : Prop where
  u : x.U.n ≤ 140737488355328
  c : x.C.n ≤ 140737488355328
  n : x.N.n ≤ 140737488355328
  q : x.Q.n ≤ 140737488355328
  e : x.E.n ≤ 140737488355328
  t : x.T.n ≤ 140737488355328
  args : ∀ g ∈ x.qs, (∀ p ∈ g.ls, p.1.args.length * 8 ≤ 140737488355328) ∧ ∀ p ∈ g.rs, p.1.args.length * 8 ≤ 140737488355328
def GreatPost (w : World) (x : LangM) (e : Ending) (w' : World) : Prop := ∃ b, e = .returned (.bool b) ∧ Below w.heap.size w w' ∧ (b = false → FitG x)
theorem greatT {w w' : World} {x : LangM} {e : Ending} (h : e = .returned (.bool true)) (hb : Below w.heap.size w w') : GreatPost w x e w' := ⟨true, h, hb, fun h => by cases h⟩
theorem all_take_snoc {α : Type} {P : α → Prop} {l : List α} {k : Nat} {x : α} (h : ∀ g ∈ l.take k, P g) (hx : l[k]? = some x) (hp : P x) : ∀ g ∈ l.take (k + 1), P g := by
  intro g hg
  rw [List.take_add_one, hx] at hg
  rcases List.mem_append.1 hg with hg | hg
  · exact h g hg
  · rw [Option.toList_some, List.mem_singleton] at hg; rw [hg]; exact hp
theorem all_take {α : Type} {P : α → Prop} {l : List α} {n : Nat} (h : ∀ g ∈ l.take n, P g) (hn : n = l.length) : ∀ g ∈ l, P g := by
  subst hn
  rwa [List.take_length] at h
set_option maxRecDepth 100000 in
set_option maxHeartbeats 12800000 in
theorem great_any (w : World) (hi : Nat) (x : LangM) (h : LangIn w 0 hi x) (hh : hi ≤ w.heap.size) (hr : Room4 x) : Calls Try.prog 5 #[.agg (langC x).toArray] w (GreatPost w x) := by
  obtain ⟨nm, vr, ⟨Au, nu, cu⟩, us, ⟨Ac, nc, cc⟩, cs, ⟨An, nn, cn⟩, ru, ⟨Aq, nq, cq⟩, qs, ⟨Ae, ne, ce⟩, es, ⟨At, nt, ct⟩, ts⟩ := x
  obtain ⟨hun, hu, hc, hnn, hn, hq, he, ht⟩ := h
  obtain ⟨ru0, rc0, rn0, rq0, re0, rt0, _⟩ := hr
  simp only at hun hu hc hnn hn hq he ht ru0 rc0 rn0 rq0 re0 rt0
  have zu := hu.2.1
  have yu := hu.2.2.1
  have zn := hn.2.1
  have yn := hn.2.2.1
  have zc := hc.row.2.1
  have yc := hc.row.2.2.1
  have HIc := Lib.hid hc
  have HNc := Lib.hid hc.n
  have zq := hq.row.2.1
  have yq := hq.row.2.2.1
  have HIq := Lib.hid hq
  have HNq := Lib.hid hq.n
  have ze := he.row.2.1
  have ye := he.row.2.2.1
  have HIe := Lib.hid he
  have HNe := Lib.hid he.n
  have zt := ht.row.2.1
  have yt := ht.row.2.2.1
  have HIt := Lib.hid ht
  have HNt := Lib.hid ht.n
  simp only at zc yc HNc zq yq HNq ze ye HNe zt yt HNt
  unfold maxLen at yu yn yc yq ye yt
  have HNu := Lib.hid hun
  have HNn := Lib.hid hnn
  clear hun hu hc hnn hn hq he ht
  show Calls _ _ #[.agg #[.string nm, .int .i64 vr, .slice Au nu cu, .slice Ac nc cc, .slice An nn cn, .slice Aq nq cq, .slice Ae ne ce, .slice At nt ct]] _ _
  have HX0 : Hid (Blk (w.alloc (.cells #[.string nm, .int .i64 vr, .slice Au nu cu, .slice Ac nc cc, .slice An nn cn, .slice Aq nq cq, .slice Ae ne ce, .slice At nt ct] 29)) w.heap.size 29 #[.string nm, .int .i64 vr, .slice Au nu cu, .slice Ac nc cc, .slice An nn cn, .slice Aq nq cq, .slice Ae ne ce, .slice At nt ct]) := Lib.hid (Blk.new _ _ _)
  have HB0 : Hid (Below w.heap.size w (w.alloc (.cells #[.string nm, .int .i64 vr, .slice Au nu cu, .slice Ac nc cc, .slice An nn cn, .slice Aq nq cq, .slice Ae ne ce, .slice At nt ct] 29))) := Lib.hid (below_more (Below.refl _ _) _)
  by_cases hG : (1200 : Int) < (nu : Int) + (nc : Int) + (nn : Int) + (nq : Int) + (ne : Int) + (nt : Int)
  · go_enter Try.func5, Try.ntmps5
    go_wp2_with fail
    go_ret
    exact greatT rfl HB0.out
  go_enter Try.func5, Try.ntmps5
  go_wp2_with fail
  go_loopw [3, 4] (fun lf i wr => ∃ (L : Int) (k : Nat), lf = .int .i64 L ∧ i = .int .i64 k ∧ k ≤ nc ∧ 0 ≤ L ∧ L ≤ 20000 ∧ Hid (Blk wr w.heap.size 29 #[.string nm, .int .i64 vr, .slice Au nu cu, .slice Ac nc cc, .slice An nn cn, .slice Aq nq cq, .slice Ae ne ce, .slice At nt ct]) ∧ Hid (Below w.heap.size w wr) ∧ Hid (∀ g ∈ cs.take k, (fun g : ConD × Leaf => g.1.props.length ≤ 20000 ∧ g.1.kids.length ≤ 20000 ∧ g.1.refs.length ≤ 20000) g)) (fun _ i _ => nc - (intOf i).toNat)
  case atStart => exact ⟨20000, 0, rfl, rfl, Nat.zero_le _, by omega, by omega, Lib.hid HX0.out, Lib.hid HB0.out, Lib.hid (by intro g hg; simp at hg)⟩
  case round =>
    obtain ⟨L, k, rfl, rfl, hk, hL0, hL1, HX, HB, HA⟩ := hrel
    have pf := (HX.out.cell 3).trans (show _ = some (.slice Ac nc cc) from rfl)
    have hsz := HB.out.size
    by_cases hlt : k < nc
    · obtain ⟨b, o, hA, _, hb, V⟩ := HIc.out.at_ (fun _ => rfl) (show 0 < nc by omega)
      simp only at hA
      subst hA
      obtain ⟨x, hx⟩ : ∃ x, cs[k]? = some x := ⟨cs[k]'(by have := HNc.out; omega), List.getElem?_eq_getElem _⟩
      obtain ⟨hlf, hat⟩ := V k x hx
      obtain ⟨⟨x1, x2, x3, xp, xk, xr⟩, ⟨⟨Ap, np, cp⟩, ⟨Ak, nk, ck⟩, ⟨Ar, nr, cr⟩⟩⟩ := x
      have q0 : wr.cell? ⟨b, o + k * 6, none⟩ = some (.string x1) := (HB.out.cell (p := ⟨_, _, none⟩) (show b < w.heap.size by omega)).trans (hat 0 _ (by omega) rfl)
      have q1 : wr.cell? ⟨b, o + k * 6 + 1, none⟩ = some (.string x2) := (HB.out.cell (p := ⟨_, _, none⟩) (show b < w.heap.size by omega)).trans (hat 1 _ (by omega) rfl)
      have q2 : wr.cell? ⟨b, o + k * 6 + 2, none⟩ = some (.bool x3) := (HB.out.cell (p := ⟨_, _, none⟩) (show b < w.heap.size by omega)).trans (hat 2 _ (by omega) rfl)
      have q3 : wr.cell? ⟨b, o + k * 6 + 3, none⟩ = some (.slice Ap np cp) := (HB.out.cell (p := ⟨_, _, none⟩) (show b < w.heap.size by omega)).trans (hat 3 _ (by omega) rfl)
      have q4 : wr.cell? ⟨b, o + k * 6 + 4, none⟩ = some (.slice Ak nk ck) := (HB.out.cell (p := ⟨_, _, none⟩) (show b < w.heap.size by omega)).trans (hat 4 _ (by omega) rfl)
      have q5 : wr.cell? ⟨b, o + k * 6 + 5, none⟩ = some (.slice Ar nr cr) := (HB.out.cell (p := ⟨_, _, none⟩) (show b < w.heap.size by omega)).trans (hat 5 _ (by omega) rfl)
      have e0 : Hid (np = xp.length) := Lib.hid hlf.pn
      have g0 : np ≤ _ := (hlf.p).2.1
      have f0 := (hlf.p).2.2.1
      unfold maxLen at f0
      have e1 : Hid (nk = xk.length) := Lib.hid hlf.kn
      have g1 : nk ≤ _ := (hlf.k).2.1
      have f1 := (hlf.k).2.2.1
      unfold maxLen at f1
      have e2 : Hid (nr = xr.length) := Lib.hid hlf.rn
      have g2 : nr ≤ _ := (hlf.r).2.1
      have f2 := (hlf.r).2.2.1
      unfold maxLen at f2
      clear hlf hat V
      by_cases w0 : L < (np : Int)
      · go_wp2_with fail
        go_ret
        exact greatT rfl (HB.out.alloc hsz _)
      by_cases w1 : L - (np : Int) < (nk : Int)
      · go_wp2_with fail
        go_ret
        exact greatT rfl (HB.out.alloc hsz _)
      by_cases w2 : L - (np : Int) - (nk : Int) < (nr : Int)
      · go_wp2_with fail
        go_ret
        exact greatT rfl (HB.out.alloc hsz _)
      have HX2 := Lib.hid (HX.out.alloc (.cells #[.string x1, .string x2, .bool x3, .slice Ap np cp, .slice Ak nk ck, .slice Ar nr cr] 38))
      have HB2 := Lib.hid (HB.out.alloc hsz (.cells #[.string x1, .string x2, .bool x3, .slice Ap np cp, .slice Ak nk ck, .slice Ar nr cr] 38))
      have HA2 := Lib.hid (all_take_snoc HA.out hx (show xp.length ≤ 20000 ∧ xk.length ≤ 20000 ∧ xr.length ≤ 20000 from ⟨by have := e0.out; omega, by have := e1.out; omega, by have := e2.out; omega⟩))
      go_wp2_with fail
      go_roundw
      case rel => exact ⟨L - (np : Int) - (nk : Int) - (nr : Int), k + 1, by first | rfl | go_num, by go_num, by omega, by omega, by omega, HX2, HB2, HA2⟩
      case measure => simp [intOf]; omega
    · have hkn : k = nc := by omega
      rw [hkn] at HA
      have HAc : Hid (∀ g ∈ cs, (fun g : ConD × Leaf => g.1.props.length ≤ 20000 ∧ g.1.kids.length ≤ 20000 ∧ g.1.refs.length ≤ 20000) g) := Lib.hid (all_take HA.out HNc.out)
      clear HA
      go_wp2_with fail
      obtain ⟨LL, hLL⟩ : ∃ LL, LL = L := ⟨_, rfl⟩
      rw [← hLL] at hL0 hL1 ⊢
      clear hLL pf hlt hk
      obtain ⟨wq, hwq⟩ : ∃ wq, wq = wr := ⟨_, rfl⟩
      rw [← hwq] at HX HB hsz ⊢
      clear hwq
      go_loopw [3, 6] (fun lf i wr => ∃ (L : Int) (k : Nat), lf = .int .i64 L ∧ i = .int .i64 k ∧ k ≤ nq ∧ 0 ≤ L ∧ L ≤ 20000 ∧ Hid (Blk wr w.heap.size 29 #[.string nm, .int .i64 vr, .slice Au nu cu, .slice Ac nc cc, .slice An nn cn, .slice Aq nq cq, .slice Ae ne ce, .slice At nt ct]) ∧ Hid (Below w.heap.size w wr) ∧ Hid (∀ g ∈ qs.take k, (fun g : EqM => g.ls.length ≤ 20000 ∧ g.rs.length ≤ 20000) g)) (fun _ i _ => nq - (intOf i).toNat)
      case atStart => exact ⟨LL, 0, rfl, rfl, Nat.zero_le _, by omega, by omega, Lib.hid HX.out, Lib.hid HB.out, Lib.hid (by intro g hg; simp at hg)⟩
      case round =>
        obtain ⟨L, k, rfl, rfl, hk, hL0, hL1, HX, HB, HA⟩ := hrel
        have pf := (HX.out.cell 5).trans (show _ = some (.slice Aq nq cq) from rfl)
        have hsz := HB.out.size
        by_cases hlt : k < nq
        · obtain ⟨b, o, hA, _, hb, V⟩ := HIq.out.at_ (fun _ => rfl) (show 0 < nq by omega)
          simp only at hA
          subst hA
          obtain ⟨x, hx⟩ : ∃ x, qs[k]? = some x := ⟨qs[k]'(by have := HNq.out; omega), List.getElem?_eq_getElem _⟩
          obtain ⟨hlf, hat⟩ := V k x hx
          obtain ⟨x1, ⟨Al, nl, cl⟩, xl, ⟨Ar, nr, cr⟩, xr⟩ := x
          have q0 : wr.cell? ⟨b, o + k * 3, none⟩ = some (.string x1) := (HB.out.cell (p := ⟨_, _, none⟩) (show b < w.heap.size by omega)).trans (hat 0 _ (by omega) rfl)
          have q1 : wr.cell? ⟨b, o + k * 3 + 1, none⟩ = some (.slice Al nl cl) := (HB.out.cell (p := ⟨_, _, none⟩) (show b < w.heap.size by omega)).trans (hat 1 _ (by omega) rfl)
          have q2 : wr.cell? ⟨b, o + k * 3 + 2, none⟩ = some (.slice Ar nr cr) := (HB.out.cell (p := ⟨_, _, none⟩) (show b < w.heap.size by omega)).trans (hat 2 _ (by omega) rfl)
          have e0 : Hid (nl = xl.length) := Lib.hid hlf.l.n
          have g0 : nl ≤ _ := (hlf.l.row).2.1
          have f0 := (hlf.l.row).2.2.1
          unfold maxLen at f0
          have e1 : Hid (nr = xr.length) := Lib.hid hlf.r.n
          have g1 : nr ≤ _ := (hlf.r.row).2.1
          have f1 := (hlf.r.row).2.2.1
          unfold maxLen at f1
          clear hlf hat V
          by_cases w0 : L < (nl : Int)
          · go_wp2_with fail
            go_ret
            exact greatT rfl (HB.out.alloc hsz _)
          by_cases w1 : L - (nl : Int) < (nr : Int)
          · go_wp2_with fail
            go_ret
            exact greatT rfl (HB.out.alloc hsz _)
          have HX2 := Lib.hid (HX.out.alloc (.cells #[.string x1, .slice Al nl cl, .slice Ar nr cr] 53))
          have HB2 := Lib.hid (HB.out.alloc hsz (.cells #[.string x1, .slice Al nl cl, .slice Ar nr cr] 53))
          have HA2 := Lib.hid (all_take_snoc HA.out hx (show xl.length ≤ 20000 ∧ xr.length ≤ 20000 from ⟨by have := e0.out; omega, by have := e1.out; omega⟩))
          go_wp2_with fail
          go_roundw
          case rel => exact ⟨L - (nl : Int) - (nr : Int), k + 1, by first | rfl | go_num, by go_num, by omega, by omega, by omega, HX2, HB2, HA2⟩
          case measure => simp [intOf]; omega
        · have hkn : k = nq := by omega
          rw [hkn] at HA
          have HAq : Hid (∀ g ∈ qs, (fun g : EqM => g.ls.length ≤ 20000 ∧ g.rs.length ≤ 20000) g) := Lib.hid (all_take HA.out HNq.out)
          clear HA
          go_wp2_with fail
          obtain ⟨LL, hLL⟩ : ∃ LL, LL = L := ⟨_, rfl⟩
          rw [← hLL] at hL0 hL1 ⊢
          clear hLL pf hlt hk
          obtain ⟨wq, hwq⟩ : ∃ wq, wq = wr := ⟨_, rfl⟩
          rw [← hwq] at HX HB hsz ⊢
          clear hwq
          go_loopw [3, 8] (fun lf i wr => ∃ (L : Int) (k : Nat), lf = .int .i64 L ∧ i = .int .i64 k ∧ k ≤ ne ∧ 0 ≤ L ∧ L ≤ 20000 ∧ Hid (Blk wr w.heap.size 29 #[.string nm, .int .i64 vr, .slice Au nu cu, .slice Ac nc cc, .slice An nn cn, .slice Aq nq cq, .slice Ae ne ce, .slice At nt ct]) ∧ Hid (Below w.heap.size w wr) ∧ Hid (∀ g ∈ es.take k, (fun g : RowD × Sl => g.1.cells.length ≤ 20000) g)) (fun _ i _ => ne - (intOf i).toNat)
          case atStart => exact ⟨LL, 0, rfl, rfl, Nat.zero_le _, by omega, by omega, Lib.hid HX.out, Lib.hid HB.out, Lib.hid (by intro g hg; simp at hg)⟩
          case round =>
            obtain ⟨L, k, rfl, rfl, hk, hL0, hL1, HX, HB, HA⟩ := hrel
            have pf := (HX.out.cell 6).trans (show _ = some (.slice Ae ne ce) from rfl)
            have hsz := HB.out.size
            by_cases hlt : k < ne
            · obtain ⟨b, o, hA, _, hb, V⟩ := HIe.out.at_ (fun _ => rfl) (show 0 < ne by omega)
              simp only at hA
              subst hA
              obtain ⟨x, hx⟩ : ∃ x, es[k]? = some x := ⟨es[k]'(by have := HNe.out; omega), List.getElem?_eq_getElem _⟩
              obtain ⟨hlf, hat⟩ := V k x hx
              obtain ⟨⟨x1, xc⟩, ⟨Ax, nx, cx⟩⟩ := x
              have q0 : wr.cell? ⟨b, o + k * 2, none⟩ = some (.string x1) := (HB.out.cell (p := ⟨_, _, none⟩) (show b < w.heap.size by omega)).trans (hat 0 _ (by omega) rfl)
              have q1 : wr.cell? ⟨b, o + k * 2 + 1, none⟩ = some (.slice Ax nx cx) := (HB.out.cell (p := ⟨_, _, none⟩) (show b < w.heap.size by omega)).trans (hat 1 _ (by omega) rfl)
              have e0 : Hid (nx = xc.length) := Lib.hid hlf.qn
              have g0 : nx ≤ _ := (hlf.q).2.1
              have f0 := (hlf.q).2.2.1
              unfold maxLen at f0
              clear hlf hat V
              by_cases w0 : L < (nx : Int)
              · go_wp2_with fail
                go_ret
                exact greatT rfl HB.out
              have HX2 := Lib.hid (HX.out)
              have HB2 := Lib.hid (HB.out)
              have HA2 := Lib.hid (all_take_snoc HA.out hx (show xc.length ≤ 20000 by have := e0.out; omega))
              go_wp2_with fail
              go_roundw
              case rel => exact ⟨L - (nx : Int), k + 1, by first | rfl | go_num, by go_num, by omega, by omega, by omega, HX2, HB2, HA2⟩
              case measure => simp [intOf]; omega
            · have hkn : k = ne := by omega
              rw [hkn] at HA
              have HAe : Hid (∀ g ∈ es, (fun g : RowD × Sl => g.1.cells.length ≤ 20000) g) := Lib.hid (all_take HA.out HNe.out)
              clear HA
              go_wp2_with fail
              obtain ⟨LL, hLL⟩ : ∃ LL, LL = L := ⟨_, rfl⟩
              rw [← hLL] at hL0 hL1 ⊢
              clear hLL pf hlt hk
              obtain ⟨wq, hwq⟩ : ∃ wq, wq = wr := ⟨_, rfl⟩
              rw [← hwq] at HX HB hsz ⊢
              clear hwq
              go_loopw [3, 9] (fun lf i wr => ∃ (L : Int) (k : Nat), lf = .int .i64 L ∧ i = .int .i64 k ∧ k ≤ nt ∧ 0 ≤ L ∧ L ≤ 20000 ∧ Hid (Blk wr w.heap.size 29 #[.string nm, .int .i64 vr, .slice Au nu cu, .slice Ac nc cc, .slice An nn cn, .slice Aq nq cq, .slice Ae ne ce, .slice At nt ct]) ∧ Hid (Below w.heap.size w wr) ∧ Hid (∀ g ∈ ts.take k, (fun g : RowD × Sl => g.1.cells.length ≤ 20000) g)) (fun _ i _ => nt - (intOf i).toNat)
              case atStart => exact ⟨LL, 0, rfl, rfl, Nat.zero_le _, by omega, by omega, Lib.hid HX.out, Lib.hid HB.out, Lib.hid (by intro g hg; simp at hg)⟩
              case round =>
                obtain ⟨L, k, rfl, rfl, hk, hL0, hL1, HX, HB, HA⟩ := hrel
                have pf := (HX.out.cell 7).trans (show _ = some (.slice At nt ct) from rfl)
                have hsz := HB.out.size
                by_cases hlt : k < nt
                · obtain ⟨b, o, hA, _, hb, V⟩ := HIt.out.at_ (fun _ => rfl) (show 0 < nt by omega)
                  simp only at hA
                  subst hA
                  obtain ⟨x, hx⟩ : ∃ x, ts[k]? = some x := ⟨ts[k]'(by have := HNt.out; omega), List.getElem?_eq_getElem _⟩
                  obtain ⟨hlf, hat⟩ := V k x hx
                  obtain ⟨⟨x1, xc⟩, ⟨Ax, nx, cx⟩⟩ := x
                  have q0 : wr.cell? ⟨b, o + k * 2, none⟩ = some (.string x1) := (HB.out.cell (p := ⟨_, _, none⟩) (show b < w.heap.size by omega)).trans (hat 0 _ (by omega) rfl)
                  have q1 : wr.cell? ⟨b, o + k * 2 + 1, none⟩ = some (.slice Ax nx cx) := (HB.out.cell (p := ⟨_, _, none⟩) (show b < w.heap.size by omega)).trans (hat 1 _ (by omega) rfl)
                  have e0 : Hid (nx = xc.length) := Lib.hid hlf.qn
                  have g0 : nx ≤ _ := (hlf.q).2.1
                  have f0 := (hlf.q).2.2.1
                  unfold maxLen at f0
                  clear hlf hat V
                  by_cases w0 : L < (nx : Int)
                  · go_wp2_with fail
                    go_ret
                    exact greatT rfl HB.out
                  have HX2 := Lib.hid (HX.out)
                  have HB2 := Lib.hid (HB.out)
                  have HA2 := Lib.hid (all_take_snoc HA.out hx (show xc.length ≤ 20000 by have := e0.out; omega))
                  go_wp2_with fail
                  go_roundw
                  case rel => exact ⟨L - (nx : Int), k + 1, by first | rfl | go_num, by go_num, by omega, by omega, by omega, HX2, HB2, HA2⟩
                  case measure => simp [intOf]; omega
                · have hkn : k = nt := by omega
                  rw [hkn] at HA
                  have HAt : Hid (∀ g ∈ ts, (fun g : RowD × Sl => g.1.cells.length ≤ 20000) g) := Lib.hid (all_take HA.out HNt.out)
                  clear HA
                  go_wp2_with fail
                  go_ret
                  have eu := HNu.out
                  have en := HNn.out
                  have ec := HNc.out
                  have eq := HNq.out
                  have ee := HNe.out
                  have et := HNt.out
                  exact ⟨false, rfl, HB.out, fun _ => ⟨by simp only; omega, HAc.out, HAq.out, HAe.out, HAt.out⟩⟩
end Go.Proofs.Ytbnjblejbnapgaa
namespace Go.Proofs.Ytbnjblejbnapgaa
open Go Go.RowKit Go.Sort
set_option linter.unusedVariables false
attribute [local go_sem ↓] Go.wp_at_zero Go.wp_at_succ
theorem Fit4.of {x : LangM} (h : FitG x) (hr : Room4 x) : Fit4 x := by
  have hn := h.n
  exact ⟨by omega, by omega, by omega, by omega, by omega, by omega, h.cs, fun g hg => ⟨(h.qs g hg).1, (h.qs g hg).2, (hr.args g hg).1, (hr.args g hg).2⟩, h.es, h.ts⟩
end Go.Proofs.Ytbnjblejbnapgaa
namespace Go.Proofs.Ytbnjblejbnapgaa
open Go Go.RowKit Go.Sort
set_option linter.unusedVariables false
/-- the list in memory of its own -/
def OwnNew (w : World) (T : TypeId) (size n : Nat) (cells : List Value) (e : Ending) (w' : World) : Prop := ∃ (A' : Option Addr) (c' : Nat), e = .returned (.slice A' n c') ∧ w'.ownsRow w.heap.size T size (.slice A' n c') n cells ∧ Below w.heap.size w w'
theorem own_pd_any (w : World) (hi : Nat) (A : Option Addr) (n c : Nat) (l : List PropD) (h : Row w 0 hi 2 A n c (pdCells l)) (hh : hi ≤ w.heap.size) (hn : n ≤ 1048576) : Calls Try.prog 32 #[.slice A n c] w (OwnNew w 45 2 n (pdCells l)) := by
  obtain ⟨i0, hi0, hz0, hs0, hb0⟩ := info_parts info_pd
  go_enter Try.func32, Try.ntmps32
  go_wp2_with (at_builtin; go_must (refine wpList_app _ rfl _ _ _ rfl w.heap.size 45 i0 _ 2 24 Try.underlying34 hi0 hz0 hs0 hb0 rfl (by omega) (.slice none 0 0) 0 [] rfl (World.ownsRow_nil _ _ _ _) 0 hi A n c (pdCells l) rfl h (pdCells_one _) (by unfold maxLen; omega) (by omega) (Nat.le_refl _) ?_; intro v1 w1 hown hgr _; rw [Nat.zero_add, List.nil_append] at hown; have hb1 := below_grows (Below.refl _ _) hgr (World.ownsRow_nil w w.heap.size 45 2) (Nat.le_refl _); obtain ⟨A1, c1, rfl⟩ := own_form hown))
  go_ret
  exact ⟨_, _, rfl, hown, hb1⟩
theorem own_kd_any (w : World) (hi : Nat) (A : Option Addr) (n c : Nat) (l : List KidD) (h : Row w 0 hi 4 A n c (kdCells l)) (hh : hi ≤ w.heap.size) (hn : n ≤ 1048576) : Calls Try.prog 33 #[.slice A n c] w (OwnNew w 47 4 n (kdCells l)) := by
  obtain ⟨i0, hi0, hz0, hs0, hb0⟩ := info_parts info_kd
  go_enter Try.func33, Try.ntmps33
  go_wp2_with (at_builtin; go_must (refine wpList_app _ rfl _ _ _ rfl w.heap.size 47 i0 _ 4 48 Try.underlying35 hi0 hz0 hs0 hb0 rfl (by omega) (.slice none 0 0) 0 [] rfl (World.ownsRow_nil _ _ _ _) 0 hi A n c (kdCells l) rfl h (kdCells_one _) (by unfold maxLen; omega) (by omega) (Nat.le_refl _) ?_; intro v1 w1 hown hgr _; rw [Nat.zero_add, List.nil_append] at hown; have hb1 := below_grows (Below.refl _ _) hgr (World.ownsRow_nil w w.heap.size 47 4) (Nat.le_refl _); obtain ⟨A1, c1, rfl⟩ := own_form hown))
  go_ret
  exact ⟨_, _, rfl, hown, hb1⟩
theorem own_rd_any (w : World) (hi : Nat) (A : Option Addr) (n c : Nat) (l : List RefD) (h : Row w 0 hi 3 A n c (rdCells l)) (hh : hi ≤ w.heap.size) (hn : n ≤ 1048576) : Calls Try.prog 34 #[.slice A n c] w (OwnNew w 49 3 n (rdCells l)) := by
  obtain ⟨i0, hi0, hz0, hs0, hb0⟩ := info_parts info_rd
  go_enter Try.func34, Try.ntmps34
  go_wp2_with (at_builtin; go_must (refine wpList_app _ rfl _ _ _ rfl w.heap.size 49 i0 _ 3 40 Try.underlying36 hi0 hz0 hs0 hb0 rfl (by omega) (.slice none 0 0) 0 [] rfl (World.ownsRow_nil _ _ _ _) 0 hi A n c (rdCells l) rfl h (rdCells_one _) (by unfold maxLen; omega) (by omega) (Nat.le_refl _) ?_; intro v1 w1 hown hgr _; rw [Nat.zero_add, List.nil_append] at hown; have hb1 := below_grows (Below.refl _ _) hgr (World.ownsRow_nil w w.heap.size 49 3) (Nat.le_refl _); obtain ⟨A1, c1, rfl⟩ := own_form hown))
  go_ret
  exact ⟨_, _, rfl, hown, hb1⟩
/-- the first concept of that name -/
def findC (cs : List (ConD × Leaf)) (s : ByteArray) : Option (ConD × Leaf) := cs.find? fun g => g.1.name.toList == s.toList
theorem findC_none {cs : List (ConD × Leaf)} {s : ByteArray} (h : ∀ g ∈ cs, (g.1.name.toList == s.toList) = false) : findC cs s = none := by
  unfold findC
  rw [List.find?_eq_none]
  intro g hg; rw [h g hg]; simp
theorem findC_at {cs : List (ConD × Leaf)} {s : ByteArray} {k : Nat} {x : ConD × Leaf} (h : ∀ g ∈ cs.take k, (g.1.name.toList == s.toList) = false) (hx : cs[k]? = some x) (hs : (x.1.name.toList == s.toList) = true) : findC cs s = some x := by
  have hk := (List.getElem?_eq_some_iff.1 hx).1
  have e : cs = cs.take k ++ x :: cs.drop (k + 1) := by
    have h1 : cs.drop k = x :: cs.drop (k + 1) := by rw [List.drop_eq_getElem_cons hk]; congr 1; exact (List.getElem?_eq_some_iff.1 hx).2
    rw [← h1, List.take_append_drop]
  unfold findC
  rw [e, List.find?_append, List.find?_cons_of_pos (p := fun g : ConD × Leaf => g.1.name.toList == s.toList) hs]
  have : (cs.take k).find? (fun g => g.1.name.toList == s.toList) = none := by rw [List.find?_eq_none]; intro g hg; rw [h g hg]; simp
  rw [this]; rfl
theorem own_setRow {w : World} {B size n g : Nat} {e t : TypeId} {v : Value} {xs : List Value} {cs cs' : Array Value} (h : w.ownsRow B e size v n xs) (hg : Blk w g t cs) (hne : e ≠ t) : (w.setRow g cs').ownsRow B e size v n xs := by
  have h1 := own_blk_ne h hg hne
  rcases h.2 with ⟨hv, hn⟩ | ⟨b, cap, cur, hv, hb, hc, h3, h4, h5, h6⟩
  · exact ⟨h.1, .inl ⟨hv, hn⟩⟩
  · refine ⟨h.1, .inr ⟨b, cap, cur, hv, hb, ?_, h3, h4, h5, h6⟩⟩
    rw [hv] at h1
    rw [setRow_other _ _ _ _ (fun e => h1 (by rw [e]; rfl))]
    exact hc
theorem infoConS : (Try.prog.info? 38).map (·.size) = some 6 := by kernel_rfl
theorem con_oneA (a b : ByteArray) (c : Bool) (A B C : Option Addr) (n1 c1 n2 c2 n3 c3 : Nat) : (#[.string a, .string b, .bool c, .slice A n1 c1, .slice B n2 c2, .slice C n3 c3] : Array Value).all (·.oneCell') = true := by simp [Value.oneCell']
theorem load_con {w : World} {g : Nat} {a b : ByteArray} {c : Bool} {A B C : Option Addr} {n1 c1 n2 c2 n3 c3 : Nat} (h : Blk w g 38 #[.string a, .string b, .bool c, .slice A n1 c1, .slice B n2 c2, .slice C n3 c3]) : (loadVar 38 ⟨g, 0, none⟩).run Try.prog w = .ok (.agg #[.string a, .string b, .bool c, .slice A n1 c1, .slice B n2 c2, .slice C n3 c3]) w :=
  run_loadVar_row w g _ _ _ (0, 0) _ h Try.underlying38 rfl infoConS
theorem ConOwn.row {w : World} {B g : Nat} {x : ConD × Leaf} {cs cs' : Array Value} (h : ConOwn w B x) (hg : Blk w g 38 cs) : ConOwn (w.setRow g cs') B x :=
  ⟨h.pn, h.kn, h.rn, own_setRow h.p hg (by decide), own_setRow h.k hg (by decide), own_setRow h.r hg (by decide)⟩
/-- the concept that is told: in own memory, with the language's lists; none -/
def ConceptPost (w : World) (own : Bool) (o : Option (ConD × Leaf)) (e : Ending) (w' : World) : Prop :=
  Below w.heap.size w w' ∧ match o with
  | some x => ∃ M : Leaf, e = .returned (.tuple #[.agg (conC (x.1, M)).toArray, .bool true]) ∧ (if own then ConOwn w' w.heap.size (x.1, M) else M = x.2)
  | none => e = .returned (.tuple #[.agg #[.string ⟨#[]⟩, .string ⟨#[]⟩, .bool false, .slice none 0 0, .slice none 0 0, .slice none 0 0], .bool false])
theorem results_row1 {fn : Func} {p u : Tmp} {ty : TypeId} (h : fn.results = #[.cell p ty, .tmp u]) (tmps : Array Value) (w : World) (g : Nat) (cs : Array Value)
    (hp : tmps.getD p undef = .pointer (some ⟨g, 0, none⟩)) (hl : (loadVar ty ⟨g, 0, none⟩).run Try.prog w = .ok (.agg cs) w) :
    (results fn tmps).run Try.prog w = .ok (.tuple #[.agg cs, tmps.getD u undef]) w := by
  have hp' : tmps[p]?.getD undef = .pointer (some ⟨g, 0, none⟩) := by simpa using hp
  simp [results, h, hp', asAddr, hl]
set_option maxRecDepth 100000 in
set_option maxHeartbeats 6400000 in
theorem concept_any (w : World) (hi : Nat) (x : LangM) (s : ByteArray) (h : LangIn w 0 hi x) (hh : hi ≤ w.heap.size) (hn : x.C.n ≤ 1048576) (hg : ∀ g ∈ x.cs, g.1.props.length ≤ 1048576 ∧ g.1.kids.length ≤ 1048576 ∧ g.1.refs.length ≤ 1048576) : Calls Try.prog 9 #[.agg (langC x).toArray, .string s] w (ConceptPost w true (findC x.cs s)) := by
  obtain ⟨nm, vr, ⟨Au, nu, cu⟩, us, ⟨Ac, nc, cc⟩, cs, ⟨An, nn, cn⟩, ru, ⟨Aq, nq, cq⟩, qs, ⟨Ae, ne, ce⟩, es, ⟨At, nt, ct⟩, ts⟩ := x
  obtain ⟨hun, hu, hc, hnn, hn_, hq, he, ht⟩ := h
  simp only at hc hn hg ⊢
  have HI := Lib.hid hc
  have HN := Lib.hid hc.n
  simp only at HN
  have z1 := hc.row.2.1
  have y1 := hc.row.2.2.1
  simp only at z1 y1
  unfold maxLen at y1
  clear hun hu hc hnn hn_ hq he ht
  show Calls _ _ #[.agg #[.string nm, .int .i64 vr, .slice Au nu cu, .slice Ac nc cc, .slice An nn cn, .slice Aq nq cq, .slice Ae ne ce, .slice At nt ct], _] _ _
  have HG := Lib.hid hg
  clear hg
  have HX0 : Hid (Blk ((w.alloc (.cells #[.string nm, .int .i64 vr, .slice Au nu cu, .slice Ac nc cc, .slice An nn cn, .slice Aq nq cq, .slice Ae ne ce, .slice At nt ct] 29)).alloc (.cells #[.string ⟨#[]⟩, .string ⟨#[]⟩, .bool false, .slice none 0 0, .slice none 0 0, .slice none 0 0] 38)) w.heap.size 29 #[.string nm, .int .i64 vr, .slice Au nu cu, .slice Ac nc cc, .slice An nn cn, .slice Aq nq cq, .slice Ae ne ce, .slice At nt ct]) := Lib.hid ((Blk.new _ _ _).alloc _)
  have HR0 : Hid (Blk ((w.alloc (.cells #[.string nm, .int .i64 vr, .slice Au nu cu, .slice Ac nc cc, .slice An nn cn, .slice Aq nq cq, .slice Ae ne ce, .slice At nt ct] 29)).alloc (.cells #[.string ⟨#[]⟩, .string ⟨#[]⟩, .bool false, .slice none 0 0, .slice none 0 0, .slice none 0 0] 38)) (w.heap.size + 1) 38 #[.string ⟨#[]⟩, .string ⟨#[]⟩, .bool false, .slice none 0 0, .slice none 0 0, .slice none 0 0]) := Lib.hid (Blk.new' (by simp))
  have HB0 : Hid (Below w.heap.size w ((w.alloc (.cells #[.string nm, .int .i64 vr, .slice Au nu cu, .slice Ac nc cc, .slice An nn cn, .slice Aq nq cq, .slice Ae ne ce, .slice At nt ct] 29)).alloc (.cells #[.string ⟨#[]⟩, .string ⟨#[]⟩, .bool false, .slice none 0 0, .slice none 0 0, .slice none 0 0] 38))) := Lib.hid ((below_more (Below.refl _ _) _).alloc (by simp) _)
  have HA0 : Hid (∀ g ∈ cs.take 0, (g.1.name.toList == s.toList) = false) := Lib.hid (by intro g hg; simp at hg)
  go_enter Try.func9, Try.ntmps9
  go_wp2_with fail
  go_loopw [11] (fun i wr => ∃ k : Nat, i = .int .i64 k ∧ k ≤ nc ∧ Hid (Blk wr w.heap.size 29 #[.string nm, .int .i64 vr, .slice Au nu cu, .slice Ac nc cc, .slice An nn cn, .slice Aq nq cq, .slice Ae ne ce, .slice At nt ct]) ∧ Hid (Blk wr (w.heap.size + 1) 38 #[.string ⟨#[]⟩, .string ⟨#[]⟩, .bool false, .slice none 0 0, .slice none 0 0, .slice none 0 0]) ∧ Hid (Below w.heap.size w wr) ∧ Hid (∀ g ∈ cs.take k, (g.1.name.toList == s.toList) = false)) (fun i _ => nc - (intOf i).toNat)
  case atStart => exact ⟨0, rfl, Nat.zero_le _, HX0, HR0, HB0, HA0⟩
  case round =>
    obtain ⟨k, rfl, hk, HX, HR, HB, HA⟩ := hrel
    have hsz := HR.out.lt
    by_cases hlt : k < nc
    · obtain ⟨b, o, hA, _, hb, V⟩ := HI.out.at_ (fun _ => rfl) (show 0 < nc by omega)
      simp only at hA
      subst hA
      obtain ⟨x, hx⟩ : ∃ x, cs[k]? = some x := ⟨cs[k]'(by have := HN.out; omega), List.getElem?_eq_getElem _⟩
      obtain ⟨hlf, hat⟩ := V k x hx
      obtain ⟨⟨x1, x2, x3, xp, xk, xr⟩, ⟨⟨Ap, np, cp⟩, ⟨Ak, nk, ck⟩, ⟨Ar, nr, cr⟩⟩⟩ := x
      have q0 : wr.cell? ⟨b, o + k * 6, none⟩ = some (.string x1) := (HB.out.cell (p := ⟨_, _, none⟩) (show b < w.heap.size by omega)).trans (hat 0 _ (by omega) rfl)
      have q1 : wr.cell? ⟨b, o + k * 6 + 1, none⟩ = some (.string x2) := (HB.out.cell (p := ⟨_, _, none⟩) (show b < w.heap.size by omega)).trans (hat 1 _ (by omega) rfl)
      have q2 : wr.cell? ⟨b, o + k * 6 + 2, none⟩ = some (.bool x3) := (HB.out.cell (p := ⟨_, _, none⟩) (show b < w.heap.size by omega)).trans (hat 2 _ (by omega) rfl)
      have q3 : wr.cell? ⟨b, o + k * 6 + 3, none⟩ = some (.slice Ap np cp) := (HB.out.cell (p := ⟨_, _, none⟩) (show b < w.heap.size by omega)).trans (hat 3 _ (by omega) rfl)
      have q4 : wr.cell? ⟨b, o + k * 6 + 4, none⟩ = some (.slice Ak nk ck) := (HB.out.cell (p := ⟨_, _, none⟩) (show b < w.heap.size by omega)).trans (hat 4 _ (by omega) rfl)
      have q5 : wr.cell? ⟨b, o + k * 6 + 5, none⟩ = some (.slice Ar nr cr) := (HB.out.cell (p := ⟨_, _, none⟩) (show b < w.heap.size by omega)).trans (hat 5 _ (by omega) rfl)
      have hgx := HG.out _ (List.mem_of_getElem? hx)
      simp only at hgx
      obtain ⟨f1, f2, f3, f4, f5, f6⟩ := hlf
      simp only at f1 f2 f3 f4 f5 f6
      have g1 : np ≤ 1048576 := by omega
      have g2 : nk ≤ 1048576 := by omega
      have g3 : nr ≤ 1048576 := by omega
      have HF := Lib.hid (And.intro f1 (And.intro f2 f3))
      have HHi : Hid (hi ≤ wr.heap.size) := Lib.hid (by omega)
      have HP1 : Hid (∀ X, Below wr.heap.size wr X → Calls Try.prog 32 #[.slice Ap np cp] X (OwnNew X 45 2 np (pdCells xp))) := Lib.hid fun X hX => own_pd_any X hi Ap np cp xp (Row.below (Row.below f4 (HB.out.mono hh)) (hX.mono (by omega))) (by have := hX.size; omega) g1
      have HP2 : Hid (∀ X, Below wr.heap.size wr X → Calls Try.prog 33 #[.slice Ak nk ck] X (OwnNew X 47 4 nk (kdCells xk))) := Lib.hid fun X hX => own_kd_any X hi Ak nk ck xk (Row.below (Row.below f5 (HB.out.mono hh)) (hX.mono (by omega))) (by have := hX.size; omega) g2
      have HP3 : Hid (∀ X, Below wr.heap.size wr X → Calls Try.prog 34 #[.slice Ar nr cr] X (OwnNew X 49 3 nr (rdCells xr))) := Lib.hid fun X hX => own_rd_any X hi Ar nr cr xr (Row.below (Row.below f6 (HB.out.mono hh)) (hX.mono (by omega))) (by have := hX.size; omega) g3
      clear f1 f2 f3 f4 f5 f6 hat V hgx
      cases hq : (x1.toList == s.toList) with
      | true =>
        have HFi := Lib.hid (findC_at HA.out hx hq)
        clear HA hx
        go_upto_region 5 with (fail)
        obtain ⟨Y0, hY0⟩ : ∃ Y, wr.alloc (.cells #[.string x1, .string x2, .bool x3, .slice Ap np cp, .slice Ak nk ck, .slice Ar nr cr] 38) = Y := ⟨_, rfl⟩
        have HY : Hid (Below wr.heap.size wr Y0) := Lib.hid (by rw [← hY0]; exact below_more (Below.refl _ _) _)
        have HZ : Hid (Blk Y0 wr.heap.size 38 #[.string x1, .string x2, .bool x3, .slice Ap np cp, .slice Ak nk ck, .slice Ar nr cr]) := Lib.hid (by rw [← hY0]; exact Blk.new _ _ _)
        rw [hY0]
        clear hY0 q0 q1 q2 q3 q4 q5
        have HSo : Hid (∀ X : World, Below Y0.heap.size Y0 X → (X.cell? ⟨wr.heap.size, 3, none⟩ = some (.slice Ap np cp) ∧ X.cell? ⟨wr.heap.size, 4, none⟩ = some (.slice Ak nk ck) ∧ X.cell? ⟨wr.heap.size, 5, none⟩ = some (.slice Ar nr cr))) := Lib.hid fun X hX => ⟨(HZ.out.after hX).cell 3, (HZ.out.after hX).cell 4, (HZ.out.after hX).cell 5⟩
        have HBz : Hid (Below Y0.heap.size Y0 Y0.drew) := Lib.hid (drew1_below _)
        refine wp_region_held_tail 10 (fun X : World => X.cell? ⟨wr.heap.size, 3, none⟩ = some (.slice Ap np cp) ∧ X.cell? ⟨wr.heap.size, 4, none⟩ = some (.slice Ak nk ck) ∧ X.cell? ⟨wr.heap.size, 5, none⟩ = some (.slice Ar nr cr)) (by kernel_rfl) (by kernel_rfl) ?hSt (fun hHeld => ?qt0)
        case hSt => exact HSo.out _ HBz.out
        case qt0 =>
          generalize Y0.drew = wz at HBz hHeld ⊢
          simp only [List.take_succ_cons, List.take_zero, List.drop_succ_cons, List.drop_zero]
          refine wpAnyH_take (i := 0) (v := (.pointer (some ⟨wr.heap.size, 3, none⟩))) rfl (by kernel_rfl) (by kernel_rfl) (by kernel_rfl) (fun _ _ _ h => h) (Or.inl ⟨by rfl, ?yh_1⟩) (by assumption) ?qh_1
          case yh_1 => (intro w hSw; (try dsimp only at hSw); go_simp)
          case qh_1 =>
            (try simp only [Act.put]); (try simp only [List.setIfInBounds_toArray])
            refine wpAnyH_take (i := 1) (v := (.slice Ap np cp)) rfl (by kernel_rfl) (by kernel_rfl) (by kernel_rfl) (fun _ _ _ h => h) (Or.inl ⟨by rfl, ?yh_2⟩) (by assumption) ?qh_2
            case yh_2 => (intro w hSw; (try dsimp only at hSw); go_simp)
            case qh_2 =>
              (try simp only [Act.put]); (try simp only [List.setIfInBounds_toArray])
              refine wpAnyH_take (i := 3) (v := (.pointer (some ⟨wr.heap.size, 4, none⟩))) rfl (by kernel_rfl) (by kernel_rfl) (by kernel_rfl) (fun _ _ _ h => h) (Or.inl ⟨by rfl, ?yh_3⟩) (by assumption) ?qh_3
              case yh_3 => (intro w hSw; (try dsimp only at hSw); go_simp)
              case qh_3 =>
                (try simp only [Act.put]); (try simp only [List.setIfInBounds_toArray])
                refine wpAnyH_take (i := 4) (v := (.slice Ak nk ck)) rfl (by kernel_rfl) (by kernel_rfl) (by kernel_rfl) (fun _ _ _ h => h) (Or.inl ⟨by rfl, ?yh_4⟩) (by assumption) ?qh_4
                case yh_4 => (intro w hSw; (try dsimp only at hSw); go_simp)
                case qh_4 =>
                  (try simp only [Act.put]); (try simp only [List.setIfInBounds_toArray])
                  refine wpAnyH_take (i := 6) (v := (.pointer (some ⟨wr.heap.size, 5, none⟩))) rfl (by kernel_rfl) (by kernel_rfl) (by kernel_rfl) (fun _ _ _ h => h) (Or.inl ⟨by rfl, ?yh_5⟩) (by assumption) ?qh_5
                  case yh_5 => (intro w hSw; (try dsimp only at hSw); go_simp)
                  case qh_5 =>
                    (try simp only [Act.put]); (try simp only [List.setIfInBounds_toArray])
                    refine wpAnyH_take (i := 7) (v := (.slice Ar nr cr)) rfl (by kernel_rfl) (by kernel_rfl) (by kernel_rfl) (fun _ _ _ h => h) (Or.inl ⟨by rfl, ?yh_6⟩) (by assumption) ?qh_6
                    case yh_6 => (intro w hSw; (try dsimp only at hSw); go_simp)
                    case qh_6 =>
                      (try simp only [Act.put]); (try simp only [List.setIfInBounds_toArray])
                      refine wpAnyH_ready (rs := [2]) (by kernel_rfl) (by simp) ?_
                      refine AllReadyH.cons rfl (fun K hK => ?sh_7) ?mh_7
                      case sh_7 =>
                        (refine step_call _ (by rfl) 32 #[.slice Ap np cp] (by go_simp) (HP1.out _ (HY.out.trans (HBz.out.mono HY.out.size))) ?_; rintro e Z1 ⟨B1, d1, rfl, ho1, hb1⟩; refine ⟨_, rfl, ?_⟩; have HO1 := Lib.hid (own_mono ho1 (Nat.le_trans HY.out.size HBz.out.size)); replace HBz := Lib.hid (HBz.out.trans (hb1.mono HBz.out.size)); clear ho1 hb1)
                        refine hK.out _ _ ?kh_7 (fun hHeld => ?qh_7)
                        case kh_7 => ((try dsimp only); exact HSo.out _ HBz.out)
                        case qh_7 =>
                          clear hK K
                          (try simp only [Act.put]); (try simp only [List.setIfInBounds_toArray])
                          refine wpAnyH_take (i := 9) (v := (.pointer (some ⟨wr.heap.size, 3, none⟩))) rfl (by kernel_rfl) (by kernel_rfl) (by kernel_rfl) (fun _ _ _ h => h) (Or.inl ⟨by rfl, ?yh_8⟩) (by assumption) ?qh_8
                          case yh_8 => (intro w hSw; (try dsimp only at hSw); go_simp)
                          case qh_8 =>
                            (try simp only [Act.put]); (try simp only [List.setIfInBounds_toArray])
                            refine wpAnyH_ready (rs := [5]) (by kernel_rfl) (by simp) ?_
                            refine AllReadyH.cons rfl (fun K hK => ?sh_9) ?mh_9
                            case sh_9 =>
                              (refine step_call _ (by rfl) 33 #[.slice Ak nk ck] (by go_simp) (HP2.out _ (HY.out.trans (HBz.out.mono HY.out.size))) ?_; rintro e Z2 ⟨B2, d2, rfl, ho2, hb2⟩; refine ⟨_, rfl, ?_⟩; have HO2 := Lib.hid (own_mono ho2 (Nat.le_trans HY.out.size HBz.out.size)); replace HO1 := Lib.hid (own_after HO1.out hb2); replace HBz := Lib.hid (HBz.out.trans (hb2.mono HBz.out.size)); clear ho2 hb2)
                              refine hK.out _ _ ?kh_9 (fun hHeld => ?qh_9)
                              case kh_9 => ((try dsimp only); exact HSo.out _ HBz.out)
                              case qh_9 =>
                                clear hK K
                                (try simp only [Act.put]); (try simp only [List.setIfInBounds_toArray])
                                refine wpAnyH_ready (rs := [8]) (by kernel_rfl) (by simp) ?_
                                refine AllReadyH.cons rfl (fun K hK => ?sh_10) ?mh_10
                                case sh_10 =>
                                  (refine step_call _ (by rfl) 34 #[.slice Ar nr cr] (by go_simp) (HP3.out _ (HY.out.trans (HBz.out.mono HY.out.size))) ?_; rintro e Z3 ⟨B3, d3, rfl, ho3, hb3⟩; refine ⟨_, rfl, ?_⟩; have HO3 := Lib.hid (own_mono ho3 (Nat.le_trans HY.out.size HBz.out.size)); replace HO1 := Lib.hid (own_after HO1.out hb3); replace HO2 := Lib.hid (own_after HO2.out hb3); replace HBz := Lib.hid (HBz.out.trans (hb3.mono HBz.out.size)); clear ho3 hb3)
                                  refine hK.out _ _ ?kh_10 (fun hHeld => ?qh_10)
                                  case kh_10 => ((try dsimp only); exact HSo.out _ HBz.out)
                                  case qh_10 =>
                                    clear hK K
                                    (try simp only [Act.put]); (try simp only [List.setIfInBounds_toArray])
                                    refine wpAnyH_done (by kernel_rfl) ?_ _
                                    clear hHeld
                                    have HZ3 := Lib.hid (HZ.out.after HBz.out)
                                    have u3 := HZ3.out.frozen 3
                                    have u4 := HZ3.out.frozen 4
                                    have u5 := HZ3.out.frozen 5
                                    have e3 := (HZ3.out.cell 3).trans (show _ = some (.slice Ap np cp) from rfl)
                                    have e4 := (HZ3.out.cell 4).trans (show _ = some (.slice Ak nk ck) from rfl)
                                    have e5 := (HZ3.out.cell 5).trans (show _ = some (.slice Ar nr cr) from rfl)
                                    have HW : Hid (Blk (((Z3.setCell ⟨wr.heap.size, 3, none⟩ (.slice B1 np d1)).setCell ⟨wr.heap.size, 4, none⟩ (.slice B2 nk d2)).setCell ⟨wr.heap.size, 5, none⟩ (.slice B3 nr d3)) wr.heap.size 38 #[.string x1, .string x2, .bool x3, .slice B1 np d1, .slice B2 nk d2, .slice B3 nr d3]) := Lib.hid (by have h3 := HZ3.out.set_ 3 (.slice B1 np d1); have h4 := h3.set_ 4 (.slice B2 nk d2); have h5 := h4.set_ 5 (.slice B3 nr d3); simpa using h5)
                                    have hne1 : (45 : TypeId) ≠ 38 := by decide
                                    have hne2 : (47 : TypeId) ≠ 38 := by decide
                                    have hne3 : (49 : TypeId) ≠ 38 := by decide
                                    have HC : Hid (ConOwn (((Z3.setCell ⟨wr.heap.size, 3, none⟩ (.slice B1 np d1)).setCell ⟨wr.heap.size, 4, none⟩ (.slice B2 nk d2)).setCell ⟨wr.heap.size, 5, none⟩ (.slice B3 nr d3)) wr.heap.size (⟨x1, x2, x3, xp, xk, xr⟩, ⟨⟨B1, np, d1⟩, ⟨B2, nk, d2⟩, ⟨B3, nr, d3⟩⟩)) := Lib.hid (by
                                      have h3 := HZ3.out.set_ 3 (.slice B1 np d1)
                                      have h4 := h3.set_ 4 (.slice B2 nk d2)
                                      exact ⟨HF.out.1, HF.out.2.1, HF.out.2.2, own_other (own_other (own_other HO1.out HZ3.out hne1 3 _) h3 hne1 4 _) h4 hne1 5 _, own_other (own_other (own_other HO2.out HZ3.out hne2 3 _) h3 hne2 4 _) h4 hne2 5 _, own_other (own_other (own_other HO3.out HZ3.out hne3 3 _) h3 hne3 4 _) h4 hne3 5 _⟩)
                                    have HBw : Hid (Below wr.heap.size wr (((Z3.setCell ⟨wr.heap.size, 3, none⟩ (.slice B1 np d1)).setCell ⟨wr.heap.size, 4, none⟩ (.slice B2 nk d2)).setCell ⟨wr.heap.size, 5, none⟩ (.slice B3 nr d3))) := Lib.hid ((((HY.out.trans (HBz.out.mono HY.out.size)).setCell (p := ⟨wr.heap.size, 3, none⟩) (Nat.le_refl _) _).setCell (p := ⟨wr.heap.size, 4, none⟩) (Nat.le_refl _) _).setCell (p := ⟨wr.heap.size, 5, none⟩) (Nat.le_refl _) _)
                                    clear HO1 HO2 HO3 HZ3 HBz HP1 HP2 HP3 HSo HZ HY
                                    show wpList _ _ _ _ _ _
                                    go_upto_region 6 with (fail)
                                    generalize (((Z3.setCell ⟨wr.heap.size, 3, none⟩ (.slice B1 np d1)).setCell ⟨wr.heap.size, 4, none⟩ (.slice B2 nk d2)).setCell ⟨wr.heap.size, 5, none⟩ (.slice B3 nr d3)) = W at HW HC HBw ⊢
                                    clear u3 u4 u5 e3 e4 e5
                                    have w0 := HW.out.cell 0
                                    have w1 := HW.out.cell 1
                                    have w2 := HW.out.cell 2
                                    have w3 := HW.out.cell 3
                                    have w4 := HW.out.cell 4
                                    have w5 := HW.out.cell 5
                                    have HRw := Lib.hid (HR.out.after HBw.out)
                                    go_wp2_with ((with_reducible show wpList _ _ _ (Oper.mk _ (Op.store 38 _ _) _ _ _ _ :: _) _ _); go_must (refine wpList_store_row rfl _ _ _ rfl (w.heap.size + 1) _ rfl rfl 38 _ HRw.out infoConS rfl (con_oneA _ _ _ _ _ _ _ _ _ _ _ _) ?_))
                                    have hres : Try.f9.results = #[.cell 4 38, .tmp 5] := by kernel_rfl
                                    (try rw [Exit.noGoto_ret])
                                    (try simp only [Exit.inBlock, Exit.then])
                                    refine bodyPost_ret (results_row1 hres _ _ (w.heap.size + 1) _ rfl (load_con (setRow_heap _ _ _ _ _ _ HRw.out))) rfl ?_
                                    rw [HFi.out]
                                    refine ⟨below_setRow (HB.out.trans (HBw.out.mono HB.out.size)) (by omega) _, ⟨⟨B1, np, d1⟩, ⟨B2, nk, d2⟩, ⟨B3, nr, d3⟩⟩, rfl, ?_⟩
                                    rw [if_pos rfl]
                                    exact ConOwn.mono_ (HC.out.row HRw.out) (by omega)
                                case mh_10 =>
                                  exact AllReadyH.nil
                            case mh_9 =>
                              exact AllReadyH.nil
                      case mh_7 =>
                        exact AllReadyH.nil
      | false =>
        have HX2 := Lib.hid (HX.out.alloc (.cells #[.string x1, .string x2, .bool x3, .slice Ap np cp, .slice Ak nk ck, .slice Ar nr cr] 38))
        have HR2 := Lib.hid (HR.out.alloc (.cells #[.string x1, .string x2, .bool x3, .slice Ap np cp, .slice Ak nk ck, .slice Ar nr cr] 38))
        have HB2 := Lib.hid (HB.out.alloc (by omega) (.cells #[.string x1, .string x2, .bool x3, .slice Ap np cp, .slice Ak nk ck, .slice Ar nr cr] 38))
        have HA2 := Lib.hid (all_take_snoc HA.out hx hq)
        clear hx HP1 HP2 HP3 HF HHi
        go_wp2_with fail
        go_roundw
        case rel => exact ⟨k + 1, by go_num, by omega, HX2, HR2, HB2, HA2⟩
        case measure => simp [intOf]; omega
    · have hkn : k = nc := by omega
      rw [hkn] at HA
      have HFi := Lib.hid (findC_none (all_take HA.out HN.out))
      go_wp2_with ((with_reducible show wpList _ _ _ (Oper.mk _ (Op.store 38 _ _) _ _ _ _ :: _) _ _); go_must (refine wpList_store_row rfl _ _ _ rfl (w.heap.size + 1) _ rfl rfl 38 _ HR.out infoConS rfl (con_oneA _ _ _ _ _ _ _ _ _ _ _ _) ?_))
      have hres : Try.f9.results = #[.cell 4 38, .tmp 5] := by kernel_rfl
      (try rw [Exit.noGoto_ret])
      (try simp only [Exit.inBlock, Exit.then])
      refine bodyPost_ret (results_row1 hres _ _ (w.heap.size + 1) _ rfl (load_con (setRow_heap _ _ _ _ _ _ HR.out))) rfl ?_
      rw [HFi.out]
      exact ⟨below_setRow HB.out (by omega) _, rfl⟩
end Go.Proofs.Ytbnjblejbnapgaa
namespace Go.Proofs.Ytbnjblejbnapgaa
open Go Go.RowKit Go.Sort
set_option linter.unusedVariables false
set_option maxRecDepth 100000 in
set_option maxHeartbeats 6400000 in
theorem refConcept_any (w : World) (hi : Nat) (x : LangM) (s : ByteArray) (h : LangIn w 0 hi x) (hh : hi ≤ w.heap.size) (hn : x.C.n ≤ 1048576) : Calls Try.prog 10 #[.agg (langC x).toArray, .string s] w (ConceptPost w false (findC x.cs s)) := by
  obtain ⟨nm, vr, ⟨Au, nu, cu⟩, us, ⟨Ac, nc, cc⟩, cs, ⟨An, nn, cn⟩, ru, ⟨Aq, nq, cq⟩, qs, ⟨Ae, ne, ce⟩, es, ⟨At, nt, ct⟩, ts⟩ := x
  obtain ⟨hun, hu, hc, hnn, hn_, hq, he, ht⟩ := h
  simp only at hc hn ⊢
  have HI := Lib.hid hc
  have HN := Lib.hid hc.n
  simp only at HN
  have z1 := hc.row.2.1
  have y1 := hc.row.2.2.1
  simp only at z1 y1
  unfold maxLen at y1
  clear hun hu hc hnn hn_ hq he ht
  show Calls _ _ #[.agg #[.string nm, .int .i64 vr, .slice Au nu cu, .slice Ac nc cc, .slice An nn cn, .slice Aq nq cq, .slice Ae ne ce, .slice At nt ct], _] _ _
  have HX0 : Hid (Blk ((w.alloc (.cells #[.string nm, .int .i64 vr, .slice Au nu cu, .slice Ac nc cc, .slice An nn cn, .slice Aq nq cq, .slice Ae ne ce, .slice At nt ct] 29)).alloc (.cells #[.string ⟨#[]⟩, .string ⟨#[]⟩, .bool false, .slice none 0 0, .slice none 0 0, .slice none 0 0] 38)) w.heap.size 29 #[.string nm, .int .i64 vr, .slice Au nu cu, .slice Ac nc cc, .slice An nn cn, .slice Aq nq cq, .slice Ae ne ce, .slice At nt ct]) := Lib.hid ((Blk.new _ _ _).alloc _)
  have HR0 : Hid (Blk ((w.alloc (.cells #[.string nm, .int .i64 vr, .slice Au nu cu, .slice Ac nc cc, .slice An nn cn, .slice Aq nq cq, .slice Ae ne ce, .slice At nt ct] 29)).alloc (.cells #[.string ⟨#[]⟩, .string ⟨#[]⟩, .bool false, .slice none 0 0, .slice none 0 0, .slice none 0 0] 38)) (w.heap.size + 1) 38 #[.string ⟨#[]⟩, .string ⟨#[]⟩, .bool false, .slice none 0 0, .slice none 0 0, .slice none 0 0]) := Lib.hid (Blk.new' (by simp))
  have HB0 : Hid (Below w.heap.size w ((w.alloc (.cells #[.string nm, .int .i64 vr, .slice Au nu cu, .slice Ac nc cc, .slice An nn cn, .slice Aq nq cq, .slice Ae ne ce, .slice At nt ct] 29)).alloc (.cells #[.string ⟨#[]⟩, .string ⟨#[]⟩, .bool false, .slice none 0 0, .slice none 0 0, .slice none 0 0] 38))) := Lib.hid ((below_more (Below.refl _ _) _).alloc (by simp) _)
  have HA0 : Hid (∀ g ∈ cs.take 0, (g.1.name.toList == s.toList) = false) := Lib.hid (by intro g hg; simp at hg)
  go_enter Try.func10, Try.ntmps10
  go_wp2_with fail
  go_loopw [6] (fun i wr => ∃ k : Nat, i = .int .i64 k ∧ k ≤ nc ∧ Hid (Blk wr w.heap.size 29 #[.string nm, .int .i64 vr, .slice Au nu cu, .slice Ac nc cc, .slice An nn cn, .slice Aq nq cq, .slice Ae ne ce, .slice At nt ct]) ∧ Hid (Blk wr (w.heap.size + 1) 38 #[.string ⟨#[]⟩, .string ⟨#[]⟩, .bool false, .slice none 0 0, .slice none 0 0, .slice none 0 0]) ∧ Hid (Below w.heap.size w wr) ∧ Hid (∀ g ∈ cs.take k, (g.1.name.toList == s.toList) = false)) (fun i _ => nc - (intOf i).toNat)
  case atStart => exact ⟨0, rfl, Nat.zero_le _, HX0, HR0, HB0, HA0⟩
  case round =>
    obtain ⟨k, rfl, hk, HX, HR, HB, HA⟩ := hrel
    have hsz := HR.out.lt
    have pf := (HX.out.cell 3).trans (show _ = some (.slice Ac nc cc) from rfl)
    by_cases hlt : k < nc
    · obtain ⟨b, o, hA, _, hb, V⟩ := HI.out.at_ (fun _ => rfl) (show 0 < nc by omega)
      simp only at hA
      subst hA
      obtain ⟨x, hx⟩ : ∃ x, cs[k]? = some x := ⟨cs[k]'(by have := HN.out; omega), List.getElem?_eq_getElem _⟩
      obtain ⟨hlf, hat⟩ := V k x hx
      obtain ⟨⟨x1, x2, x3, xp, xk, xr⟩, ⟨⟨Ap, np, cp⟩, ⟨Ak, nk, ck⟩, ⟨Ar, nr, cr⟩⟩⟩ := x
      have q0 : wr.cell? ⟨b, o + k * 6, none⟩ = some (.string x1) := (HB.out.cell (p := ⟨_, _, none⟩) (show b < w.heap.size by omega)).trans (hat 0 _ (by omega) rfl)
      have q1 : wr.cell? ⟨b, o + k * 6 + 1, none⟩ = some (.string x2) := (HB.out.cell (p := ⟨_, _, none⟩) (show b < w.heap.size by omega)).trans (hat 1 _ (by omega) rfl)
      have q2 : wr.cell? ⟨b, o + k * 6 + 2, none⟩ = some (.bool x3) := (HB.out.cell (p := ⟨_, _, none⟩) (show b < w.heap.size by omega)).trans (hat 2 _ (by omega) rfl)
      have q3 : wr.cell? ⟨b, o + k * 6 + 3, none⟩ = some (.slice Ap np cp) := (HB.out.cell (p := ⟨_, _, none⟩) (show b < w.heap.size by omega)).trans (hat 3 _ (by omega) rfl)
      have q4 : wr.cell? ⟨b, o + k * 6 + 4, none⟩ = some (.slice Ak nk ck) := (HB.out.cell (p := ⟨_, _, none⟩) (show b < w.heap.size by omega)).trans (hat 4 _ (by omega) rfl)
      have q5 : wr.cell? ⟨b, o + k * 6 + 5, none⟩ = some (.slice Ar nr cr) := (HB.out.cell (p := ⟨_, _, none⟩) (show b < w.heap.size by omega)).trans (hat 5 _ (by omega) rfl)
      clear hlf hat V
      cases hq : (x1.toList == s.toList) with
      | true =>
        have HFi := Lib.hid (findC_at HA.out hx hq)
        clear HA hx
        go_wp2_with ((with_reducible show wpList _ _ _ (Oper.mk _ (Op.store 38 _ _) _ _ _ _ :: _) _ _); go_must (refine wpList_store_row rfl _ _ _ rfl (w.heap.size + 1) _ rfl rfl 38 _ HR.out infoConS rfl (con_oneA _ _ _ _ _ _ _ _ _ _ _ _) ?_))
        have hres : Try.f10.results = #[.cell 4 38, .tmp 5] := by kernel_rfl
        (try rw [Exit.noGoto_ret])
        (try simp only [Exit.inBlock, Exit.then])
        refine bodyPost_ret (results_row1 hres _ _ (w.heap.size + 1) _ rfl (load_con (setRow_heap _ _ _ _ _ _ HR.out))) rfl ?_
        rw [HFi.out]
        exact ⟨below_setRow HB.out (by omega) _, ⟨⟨Ap, np, cp⟩, ⟨Ak, nk, ck⟩, ⟨Ar, nr, cr⟩⟩, rfl, rfl⟩
      | false =>
        have HA2 := Lib.hid (all_take_snoc HA.out hx hq)
        clear hx
        go_wp2_with fail
        go_roundw
        case rel => exact ⟨k + 1, by go_num, by omega, HX, HR, HB, HA2⟩
        case measure => simp [intOf]; omega
    · have hkn : k = nc := by omega
      rw [hkn] at HA
      have HFi := Lib.hid (findC_none (all_take HA.out HN.out))
      go_wp2_with ((with_reducible show wpList _ _ _ (Oper.mk _ (Op.store 38 _ _) _ _ _ _ :: _) _ _); go_must (refine wpList_store_row rfl _ _ _ rfl (w.heap.size + 1) _ rfl rfl 38 _ HR.out infoConS rfl (con_oneA _ _ _ _ _ _ _ _ _ _ _ _) ?_))
      have hres : Try.f10.results = #[.cell 4 38, .tmp 5] := by kernel_rfl
      (try rw [Exit.noGoto_ret])
      (try simp only [Exit.inBlock, Exit.then])
      refine bodyPost_ret (results_row1 hres _ _ (w.heap.size + 1) _ rfl (load_con (setRow_heap _ _ _ _ _ _ HR.out))) rfl ?_
      rw [HFi.out]
      exact ⟨below_setRow HB.out (by omega) _, rfl⟩
end Go.Proofs.Ytbnjblejbnapgaa

/-
  WALKS: great: how long the lists of a language are.
  TREES TOLD BY NUMBERS: the program's way and the document's: plain mathematics. No program stands in it.
  WHAT IS WRONG WITH A DEFINITION, in plain mathematics: each list is gone through, the first fault is told. No program stands in it.
  WALKS: places of faults, what is thrown, numbers within bounds.
-/
import Derived.Test.YtilemieknfdjnaaGreatZ2
namespace Go.Proofs.YtilemieknfdjnaaGreat
open Go Go.RowKit Go.Sort
set_option linter.unusedVariables false
/-- how great the lists of a language may be that is gone through -/
structure FitG (x : LangM) : Prop where
  n : x.us.length + x.cs.length + x.ru.length + x.qs.length + x.es.length + x.ts.length ≤ 1200
  cs : ∀ g ∈ x.cs, g.1.props.length ≤ 20000 ∧ g.1.kids.length ≤ 20000 ∧ g.1.refs.length ≤ 20000
  qs : ∀ g ∈ x.qs, g.ls.length ≤ 20000 ∧ g.rs.length ≤ 20000
  es : ∀ g ∈ x.es, g.1.cells.length ≤ 20000
  ts : ∀ g ∈ x.ts, g.1.cells.length ≤ 20000
/-- what an argument's weight bounds -/
structure Room4 (x : LangM) : Prop where
  u : x.U.n ≤ 140737488355328
  c : x.C.n ≤ 140737488355328
  n : x.N.n ≤ 140737488355328
  q : x.Q.n ≤ 140737488355328
  e : x.E.n ≤ 140737488355328
  t : x.T.n ≤ 140737488355328
  args : ∀ g ∈ x.qs, (∀ p ∈ g.ls, p.1.args.length * 8 ≤ 140737488355328) ∧ ∀ p ∈ g.rs, p.1.args.length * 8 ≤ 140737488355328
def GreatPost (w : World) (x : LangM) (e : Ending) (w' : World) : Prop := ∃ b, e = .returned (.bool b) ∧ Below w.heap.size w w' ∧ (b = false → FitG x)
theorem greatT {w w' : World} {x : LangM} {e : Ending} (h : e = .returned (.bool true)) (hb : Below w.heap.size w w') : GreatPost w x e w' := ⟨true, h, hb, fun h => by cases h⟩
theorem all_take_snoc {α : Type} {P : α → Prop} {l : List α} {k : Nat} {x : α} (h : ∀ g ∈ l.take k, P g) (hx : l[k]? = some x) (hp : P x) : ∀ g ∈ l.take (k + 1), P g := by
  intro g hg
  rw [List.take_add_one, hx] at hg
  rcases List.mem_append.1 hg with hg | hg
  · exact h g hg
  · rw [Option.toList_some, List.mem_singleton] at hg; rw [hg]; exact hp
theorem all_take {α : Type} {P : α → Prop} {l : List α} {n : Nat} (h : ∀ g ∈ l.take n, P g) (hn : n = l.length) : ∀ g ∈ l, P g := by
  subst hn
  rwa [List.take_length] at h
set_option maxRecDepth 100000 in
set_option maxHeartbeats 12800000 in
theorem great_any (w : World) (hi : Nat) (x : LangM) (h : LangIn w 0 hi x) (hh : hi ≤ w.heap.size) (hr : Room4 x) : Calls Tryz.prog 6 #[.agg (langC x).toArray] w (GreatPost w x) := by
  obtain ⟨nm, vr, ⟨Au, nu, cu⟩, us, ⟨Ac, nc, cc⟩, cs, ⟨An, nn, cn⟩, ru, ⟨Aq, nq, cq⟩, qs, ⟨Ae, ne, ce⟩, es, ⟨At, nt, ct⟩, ts⟩ := x
  obtain ⟨hun, hu, hc, hnn, hn, hq, he, ht⟩ := h
  obtain ⟨ru0, rc0, rn0, rq0, re0, rt0, _⟩ := hr
  simp only at hun hu hc hnn hn hq he ht ru0 rc0 rn0 rq0 re0 rt0
  have zu := hu.2.1
  have yu := hu.2.2.1
  have zn := hn.2.1
  have yn := hn.2.2.1
  have zc := hc.row.2.1
  have yc := hc.row.2.2.1
  have HIc := Lib.hid hc
  have HNc := Lib.hid hc.n
  have zq := hq.row.2.1
  have yq := hq.row.2.2.1
  have HIq := Lib.hid hq
  have HNq := Lib.hid hq.n
  have ze := he.row.2.1
  have ye := he.row.2.2.1
  have HIe := Lib.hid he
  have HNe := Lib.hid he.n
  have zt := ht.row.2.1
  have yt := ht.row.2.2.1
  have HIt := Lib.hid ht
  have HNt := Lib.hid ht.n
  simp only at zc yc HNc zq yq HNq ze ye HNe zt yt HNt
  unfold maxLen at yu yn yc yq ye yt
  have HNu := Lib.hid hun
  have HNn := Lib.hid hnn
  clear hun hu hc hnn hn hq he ht
  show Calls _ _ #[.agg #[.string nm, .int .i64 vr, .slice Au nu cu, .slice Ac nc cc, .slice An nn cn, .slice Aq nq cq, .slice Ae ne ce, .slice At nt ct]] _ _
  have HX0 : Hid (Blk (w.alloc (.cells #[.string nm, .int .i64 vr, .slice Au nu cu, .slice Ac nc cc, .slice An nn cn, .slice Aq nq cq, .slice Ae ne ce, .slice At nt ct] 29)) w.heap.size 29 #[.string nm, .int .i64 vr, .slice Au nu cu, .slice Ac nc cc, .slice An nn cn, .slice Aq nq cq, .slice Ae ne ce, .slice At nt ct]) := Lib.hid (Blk.new _ _ _)
  have HB0 : Hid (Below w.heap.size w (w.alloc (.cells #[.string nm, .int .i64 vr, .slice Au nu cu, .slice Ac nc cc, .slice An nn cn, .slice Aq nq cq, .slice Ae ne ce, .slice At nt ct] 29))) := Lib.hid (below_more (Below.refl _ _) _)
  by_cases hG : (1200 : Int) < (nu : Int) + (nc : Int) + (nn : Int) + (nq : Int) + (ne : Int) + (nt : Int)
  · go_enter Tryz.func6, Tryz.ntmps6
    go_wp2_with fail
    go_ret
    exact greatT rfl HB0.out
  go_enter Tryz.func6, Tryz.ntmps6
  go_wp2_with fail
  go_loopw [3, 4] (fun lf i wr => ∃ (L : Int) (k : Nat), lf = .int .i64 L ∧ i = .int .i64 k ∧ k ≤ nc ∧ 0 ≤ L ∧ L ≤ 20000 ∧ Hid (Blk wr w.heap.size 29 #[.string nm, .int .i64 vr, .slice Au nu cu, .slice Ac nc cc, .slice An nn cn, .slice Aq nq cq, .slice Ae ne ce, .slice At nt ct]) ∧ Hid (Below w.heap.size w wr) ∧ Hid (∀ g ∈ cs.take k, (fun g : ConD × Leaf => g.1.props.length ≤ 20000 ∧ g.1.kids.length ≤ 20000 ∧ g.1.refs.length ≤ 20000) g)) (fun _ i _ => nc - (intOf i).toNat)
  case atStart => exact ⟨20000, 0, rfl, rfl, Nat.zero_le _, by omega, by omega, Lib.hid HX0.out, Lib.hid HB0.out, Lib.hid (by intro g hg; simp at hg)⟩
  case round =>
    obtain ⟨L, k, rfl, rfl, hk, hL0, hL1, HX, HB, HA⟩ := hrel
    have pf := (HX.out.cell 3).trans (show _ = some (.slice Ac nc cc) from rfl)
    have hsz := HB.out.size
    by_cases hlt : k < nc
    · obtain ⟨b, o, hA, _, hb, V⟩ := HIc.out.at_ (fun _ => rfl) (show 0 < nc by omega)
      simp only at hA
      subst hA
      obtain ⟨x, hx⟩ : ∃ x, cs[k]? = some x := ⟨cs[k]'(by have := HNc.out; omega), List.getElem?_eq_getElem _⟩
      obtain ⟨hlf, hat⟩ := V k x hx
      obtain ⟨⟨x1, x2, x3, xp, xk, xr⟩, ⟨⟨Ap, np, cp⟩, ⟨Ak, nk, ck⟩, ⟨Ar, nr, cr⟩⟩⟩ := x
      have q0 : wr.cell? ⟨b, o + k * 6, none⟩ = some (.string x1) := (HB.out.cell (p := ⟨_, _, none⟩) (show b < w.heap.size by omega)).trans (hat 0 _ (by omega) rfl)
      have q1 : wr.cell? ⟨b, o + k * 6 + 1, none⟩ = some (.string x2) := (HB.out.cell (p := ⟨_, _, none⟩) (show b < w.heap.size by omega)).trans (hat 1 _ (by omega) rfl)
      have q2 : wr.cell? ⟨b, o + k * 6 + 2, none⟩ = some (.bool x3) := (HB.out.cell (p := ⟨_, _, none⟩) (show b < w.heap.size by omega)).trans (hat 2 _ (by omega) rfl)
      have q3 : wr.cell? ⟨b, o + k * 6 + 3, none⟩ = some (.slice Ap np cp) := (HB.out.cell (p := ⟨_, _, none⟩) (show b < w.heap.size by omega)).trans (hat 3 _ (by omega) rfl)
      have q4 : wr.cell? ⟨b, o + k * 6 + 4, none⟩ = some (.slice Ak nk ck) := (HB.out.cell (p := ⟨_, _, none⟩) (show b < w.heap.size by omega)).trans (hat 4 _ (by omega) rfl)
      have q5 : wr.cell? ⟨b, o + k * 6 + 5, none⟩ = some (.slice Ar nr cr) := (HB.out.cell (p := ⟨_, _, none⟩) (show b < w.heap.size by omega)).trans (hat 5 _ (by omega) rfl)
      have e0 : Hid (np = xp.length) := Lib.hid hlf.pn
      have g0 : np ≤ _ := (hlf.p).2.1
      have f0 := (hlf.p).2.2.1
      unfold maxLen at f0
      have e1 : Hid (nk = xk.length) := Lib.hid hlf.kn
      have g1 : nk ≤ _ := (hlf.k).2.1
      have f1 := (hlf.k).2.2.1
      unfold maxLen at f1
      have e2 : Hid (nr = xr.length) := Lib.hid hlf.rn
      have g2 : nr ≤ _ := (hlf.r).2.1
      have f2 := (hlf.r).2.2.1
      unfold maxLen at f2
      clear hlf hat V
      by_cases w0 : L < (np : Int)
      · go_wp2_with fail
        go_ret
        exact greatT rfl (HB.out.alloc hsz _)
      by_cases w1 : L - (np : Int) < (nk : Int)
      · go_wp2_with fail
        go_ret
        exact greatT rfl (HB.out.alloc hsz _)
      by_cases w2 : L - (np : Int) - (nk : Int) < (nr : Int)
      · go_wp2_with fail
        go_ret
        exact greatT rfl (HB.out.alloc hsz _)
      have HX2 := Lib.hid (HX.out.alloc (.cells #[.string x1, .string x2, .bool x3, .slice Ap np cp, .slice Ak nk ck, .slice Ar nr cr] 47))
      have HB2 := Lib.hid (HB.out.alloc hsz (.cells #[.string x1, .string x2, .bool x3, .slice Ap np cp, .slice Ak nk ck, .slice Ar nr cr] 47))
      have HA2 := Lib.hid (all_take_snoc HA.out hx (show xp.length ≤ 20000 ∧ xk.length ≤ 20000 ∧ xr.length ≤ 20000 from ⟨by have := e0.out; omega, by have := e1.out; omega, by have := e2.out; omega⟩))
      go_wp2_with fail
      go_roundw
      case rel => exact ⟨L - (np : Int) - (nk : Int) - (nr : Int), k + 1, by first | rfl | go_num, by go_num, by omega, by omega, by omega, HX2, HB2, HA2⟩
      case measure => simp [intOf]; omega
    · have hkn : k = nc := by omega
      rw [hkn] at HA
      have HAc : Hid (∀ g ∈ cs, (fun g : ConD × Leaf => g.1.props.length ≤ 20000 ∧ g.1.kids.length ≤ 20000 ∧ g.1.refs.length ≤ 20000) g) := Lib.hid (all_take HA.out HNc.out)
      clear HA
      go_wp2_with fail
      obtain ⟨LL, hLL⟩ : ∃ LL, LL = L := ⟨_, rfl⟩
      rw [← hLL] at hL0 hL1 ⊢
      clear hLL pf hlt hk
      obtain ⟨wq, hwq⟩ : ∃ wq, wq = wr := ⟨_, rfl⟩
      rw [← hwq] at HX HB hsz ⊢
      clear hwq
      go_loopw [3, 6] (fun lf i wr => ∃ (L : Int) (k : Nat), lf = .int .i64 L ∧ i = .int .i64 k ∧ k ≤ nq ∧ 0 ≤ L ∧ L ≤ 20000 ∧ Hid (Blk wr w.heap.size 29 #[.string nm, .int .i64 vr, .slice Au nu cu, .slice Ac nc cc, .slice An nn cn, .slice Aq nq cq, .slice Ae ne ce, .slice At nt ct]) ∧ Hid (Below w.heap.size w wr) ∧ Hid (∀ g ∈ qs.take k, (fun g : EqM => g.ls.length ≤ 20000 ∧ g.rs.length ≤ 20000) g)) (fun _ i _ => nq - (intOf i).toNat)
      case atStart => exact ⟨LL, 0, rfl, rfl, Nat.zero_le _, by omega, by omega, Lib.hid HX.out, Lib.hid HB.out, Lib.hid (by intro g hg; simp at hg)⟩
      case round =>
        obtain ⟨L, k, rfl, rfl, hk, hL0, hL1, HX, HB, HA⟩ := hrel
        have pf := (HX.out.cell 5).trans (show _ = some (.slice Aq nq cq) from rfl)
        have hsz := HB.out.size
        by_cases hlt : k < nq
        · obtain ⟨b, o, hA, _, hb, V⟩ := HIq.out.at_ (fun _ => rfl) (show 0 < nq by omega)
          simp only at hA
          subst hA
          obtain ⟨x, hx⟩ : ∃ x, qs[k]? = some x := ⟨qs[k]'(by have := HNq.out; omega), List.getElem?_eq_getElem _⟩
          obtain ⟨hlf, hat⟩ := V k x hx
          obtain ⟨x1, ⟨Al, nl, cl⟩, xl, ⟨Ar, nr, cr⟩, xr⟩ := x
          have q0 : wr.cell? ⟨b, o + k * 3, none⟩ = some (.string x1) := (HB.out.cell (p := ⟨_, _, none⟩) (show b < w.heap.size by omega)).trans (hat 0 _ (by omega) rfl)
          have q1 : wr.cell? ⟨b, o + k * 3 + 1, none⟩ = some (.slice Al nl cl) := (HB.out.cell (p := ⟨_, _, none⟩) (show b < w.heap.size by omega)).trans (hat 1 _ (by omega) rfl)
          have q2 : wr.cell? ⟨b, o + k * 3 + 2, none⟩ = some (.slice Ar nr cr) := (HB.out.cell (p := ⟨_, _, none⟩) (show b < w.heap.size by omega)).trans (hat 2 _ (by omega) rfl)
          have e0 : Hid (nl = xl.length) := Lib.hid hlf.l.n
          have g0 : nl ≤ _ := (hlf.l.row).2.1
          have f0 := (hlf.l.row).2.2.1
          unfold maxLen at f0
          have e1 : Hid (nr = xr.length) := Lib.hid hlf.r.n
          have g1 : nr ≤ _ := (hlf.r.row).2.1
          have f1 := (hlf.r.row).2.2.1
          unfold maxLen at f1
          clear hlf hat V
          by_cases w0 : L < (nl : Int)
          · go_wp2_with fail
            go_ret
            exact greatT rfl (HB.out.alloc hsz _)
          by_cases w1 : L - (nl : Int) < (nr : Int)
          · go_wp2_with fail
            go_ret
            exact greatT rfl (HB.out.alloc hsz _)
          have HX2 := Lib.hid (HX.out.alloc (.cells #[.string x1, .slice Al nl cl, .slice Ar nr cr] 52))
          have HB2 := Lib.hid (HB.out.alloc hsz (.cells #[.string x1, .slice Al nl cl, .slice Ar nr cr] 52))
          have HA2 := Lib.hid (all_take_snoc HA.out hx (show xl.length ≤ 20000 ∧ xr.length ≤ 20000 from ⟨by have := e0.out; omega, by have := e1.out; omega⟩))
          go_wp2_with fail
          go_roundw
          case rel => exact ⟨L - (nl : Int) - (nr : Int), k + 1, by first | rfl | go_num, by go_num, by omega, by omega, by omega, HX2, HB2, HA2⟩
          case measure => simp [intOf]; omega
        · have hkn : k = nq := by omega
          rw [hkn] at HA
          have HAq : Hid (∀ g ∈ qs, (fun g : EqM => g.ls.length ≤ 20000 ∧ g.rs.length ≤ 20000) g) := Lib.hid (all_take HA.out HNq.out)
          clear HA
          go_wp2_with fail
          obtain ⟨LL, hLL⟩ : ∃ LL, LL = L := ⟨_, rfl⟩
          rw [← hLL] at hL0 hL1 ⊢
          clear hLL pf hlt hk
          obtain ⟨wq, hwq⟩ : ∃ wq, wq = wr := ⟨_, rfl⟩
          rw [← hwq] at HX HB hsz ⊢
          clear hwq
          go_loopw [3, 8] (fun lf i wr => ∃ (L : Int) (k : Nat), lf = .int .i64 L ∧ i = .int .i64 k ∧ k ≤ ne ∧ 0 ≤ L ∧ L ≤ 20000 ∧ Hid (Blk wr w.heap.size 29 #[.string nm, .int .i64 vr, .slice Au nu cu, .slice Ac nc cc, .slice An nn cn, .slice Aq nq cq, .slice Ae ne ce, .slice At nt ct]) ∧ Hid (Below w.heap.size w wr) ∧ Hid (∀ g ∈ es.take k, (fun g : RowD × Sl => g.1.cells.length ≤ 20000) g)) (fun _ i _ => ne - (intOf i).toNat)
          case atStart => exact ⟨LL, 0, rfl, rfl, Nat.zero_le _, by omega, by omega, Lib.hid HX.out, Lib.hid HB.out, Lib.hid (by intro g hg; simp at hg)⟩
          case round =>
            obtain ⟨L, k, rfl, rfl, hk, hL0, hL1, HX, HB, HA⟩ := hrel
            have pf := (HX.out.cell 6).trans (show _ = some (.slice Ae ne ce) from rfl)
            have hsz := HB.out.size
            by_cases hlt : k < ne
            · obtain ⟨b, o, hA, _, hb, V⟩ := HIe.out.at_ (fun _ => rfl) (show 0 < ne by omega)
              simp only at hA
              subst hA
              obtain ⟨x, hx⟩ : ∃ x, es[k]? = some x := ⟨es[k]'(by have := HNe.out; omega), List.getElem?_eq_getElem _⟩
              obtain ⟨hlf, hat⟩ := V k x hx
              obtain ⟨⟨x1, xc⟩, ⟨Ax, nx, cx⟩⟩ := x
              have q0 : wr.cell? ⟨b, o + k * 2, none⟩ = some (.string x1) := (HB.out.cell (p := ⟨_, _, none⟩) (show b < w.heap.size by omega)).trans (hat 0 _ (by omega) rfl)
              have q1 : wr.cell? ⟨b, o + k * 2 + 1, none⟩ = some (.slice Ax nx cx) := (HB.out.cell (p := ⟨_, _, none⟩) (show b < w.heap.size by omega)).trans (hat 1 _ (by omega) rfl)
              have e0 : Hid (nx = xc.length) := Lib.hid hlf.qn
              have g0 : nx ≤ _ := (hlf.q).2.1
              have f0 := (hlf.q).2.2.1
              unfold maxLen at f0
              clear hlf hat V
              by_cases w0 : L < (nx : Int)
              · go_wp2_with fail
                go_ret
                exact greatT rfl HB.out
              have HX2 := Lib.hid (HX.out)
              have HB2 := Lib.hid (HB.out)
              have HA2 := Lib.hid (all_take_snoc HA.out hx (show xc.length ≤ 20000 by have := e0.out; omega))
              go_wp2_with fail
              go_roundw
              case rel => exact ⟨L - (nx : Int), k + 1, by first | rfl | go_num, by go_num, by omega, by omega, by omega, HX2, HB2, HA2⟩
              case measure => simp [intOf]; omega
            · have hkn : k = ne := by omega
              rw [hkn] at HA
              have HAe : Hid (∀ g ∈ es, (fun g : RowD × Sl => g.1.cells.length ≤ 20000) g) := Lib.hid (all_take HA.out HNe.out)
              clear HA
              go_wp2_with fail
              obtain ⟨LL, hLL⟩ : ∃ LL, LL = L := ⟨_, rfl⟩
              rw [← hLL] at hL0 hL1 ⊢
              clear hLL pf hlt hk
              obtain ⟨wq, hwq⟩ : ∃ wq, wq = wr := ⟨_, rfl⟩
              rw [← hwq] at HX HB hsz ⊢
              clear hwq
              go_loopw [3, 9] (fun lf i wr => ∃ (L : Int) (k : Nat), lf = .int .i64 L ∧ i = .int .i64 k ∧ k ≤ nt ∧ 0 ≤ L ∧ L ≤ 20000 ∧ Hid (Blk wr w.heap.size 29 #[.string nm, .int .i64 vr, .slice Au nu cu, .slice Ac nc cc, .slice An nn cn, .slice Aq nq cq, .slice Ae ne ce, .slice At nt ct]) ∧ Hid (Below w.heap.size w wr) ∧ Hid (∀ g ∈ ts.take k, (fun g : RowD × Sl => g.1.cells.length ≤ 20000) g)) (fun _ i _ => nt - (intOf i).toNat)
              case atStart => exact ⟨LL, 0, rfl, rfl, Nat.zero_le _, by omega, by omega, Lib.hid HX.out, Lib.hid HB.out, Lib.hid (by intro g hg; simp at hg)⟩
              case round =>
                obtain ⟨L, k, rfl, rfl, hk, hL0, hL1, HX, HB, HA⟩ := hrel
                have pf := (HX.out.cell 7).trans (show _ = some (.slice At nt ct) from rfl)
                have hsz := HB.out.size
                by_cases hlt : k < nt
                · obtain ⟨b, o, hA, _, hb, V⟩ := HIt.out.at_ (fun _ => rfl) (show 0 < nt by omega)
                  simp only at hA
                  subst hA
                  obtain ⟨x, hx⟩ : ∃ x, ts[k]? = some x := ⟨ts[k]'(by have := HNt.out; omega), List.getElem?_eq_getElem _⟩
                  obtain ⟨hlf, hat⟩ := V k x hx
                  obtain ⟨⟨x1, xc⟩, ⟨Ax, nx, cx⟩⟩ := x
                  have q0 : wr.cell? ⟨b, o + k * 2, none⟩ = some (.string x1) := (HB.out.cell (p := ⟨_, _, none⟩) (show b < w.heap.size by omega)).trans (hat 0 _ (by omega) rfl)
                  have q1 : wr.cell? ⟨b, o + k * 2 + 1, none⟩ = some (.slice Ax nx cx) := (HB.out.cell (p := ⟨_, _, none⟩) (show b < w.heap.size by omega)).trans (hat 1 _ (by omega) rfl)
                  have e0 : Hid (nx = xc.length) := Lib.hid hlf.qn
                  have g0 : nx ≤ _ := (hlf.q).2.1
                  have f0 := (hlf.q).2.2.1
                  unfold maxLen at f0
                  clear hlf hat V
                  by_cases w0 : L < (nx : Int)
                  · go_wp2_with fail
                    go_ret
                    exact greatT rfl HB.out
                  have HX2 := Lib.hid (HX.out)
                  have HB2 := Lib.hid (HB.out)
                  have HA2 := Lib.hid (all_take_snoc HA.out hx (show xc.length ≤ 20000 by have := e0.out; omega))
                  go_wp2_with fail
                  go_roundw
                  case rel => exact ⟨L - (nx : Int), k + 1, by first | rfl | go_num, by go_num, by omega, by omega, by omega, HX2, HB2, HA2⟩
                  case measure => simp [intOf]; omega
                · have hkn : k = nt := by omega
                  rw [hkn] at HA
                  have HAt : Hid (∀ g ∈ ts, (fun g : RowD × Sl => g.1.cells.length ≤ 20000) g) := Lib.hid (all_take HA.out HNt.out)
                  clear HA
                  go_wp2_with fail
                  go_ret
                  have eu := HNu.out
                  have en := HNn.out
                  have ec := HNc.out
                  have eq := HNq.out
                  have ee := HNe.out
                  have et := HNt.out
                  exact ⟨false, rfl, HB.out, fun _ => ⟨by simp only; omega, HAc.out, HAq.out, HAe.out, HAt.out⟩⟩
end Go.Proofs.YtilemieknfdjnaaGreat
namespace Go.Proofs.YtilemieknfdjnaaGreat
open Go Go.RowKit
set_option linter.unusedVariables false
/-- the program's way: the elements one behind the other; what is to be met yet, the next one first -/
def treeP : List (List Int) → Nat → List Int → Bool
  | [], _, stk => stk.isEmpty
  | _ :: _, _, [] => false
  | a :: T, i, t :: stk => if t = (i : Int) then treeP T (i + 1) (a ++ stk) else false
/-- the document's way -/
def treeD (N : Nat) : List (List Int) → Nat → List Int → Bool
  | T, _, [] => T.isEmpty
  | [], _, _ :: _ => false
  | a :: T, i, t :: stk => if t = (i : Int) ∧ a.length ≤ N then treeD N T (i + 1) (a ++ stk) else false
theorem treeP_short : ∀ (T : List (List Int)) (i : Nat) (stk : List Int), treeP T i stk = true → stk.length ≤ T.length
  | [], _, stk, h => by
    unfold treeP at h
    rw [List.isEmpty_iff] at h
    simp [h]
  | a :: T, i, [], h => by simp
  | a :: T, i, t :: stk, h => by
    unfold treeP at h
    split at h
    · have := treeP_short T (i + 1) (a ++ stk) h
      rw [List.length_append] at this
      simp only [List.length_cons]
      omega
    · cases h
theorem tree_same (N : Nat) : ∀ (T : List (List Int)) (i : Nat) (stk : List Int), T.length ≤ N → treeP T i stk = treeD N T i stk
  | [], _, [], _ => rfl
  | [], _, _ :: _, _ => rfl
  | a :: T, i, [], _ => rfl
  | a :: T, i, t :: stk, h => by
    unfold treeP treeD
    have hT : T.length ≤ N := by simp at h; omega
    by_cases ht : t = (i : Int)
    · by_cases ha : a.length ≤ N
      · rw [if_pos ht, if_pos ⟨ht, ha⟩]
        exact tree_same N T (i + 1) (a ++ stk) hT
      · rw [if_pos ht, if_neg (fun h => ha h.2)]
        cases hp : treeP T (i + 1) (a ++ stk) with
        | false => rfl
        | true =>
          have := treeP_short T (i + 1) (a ++ stk) hp
          rw [List.length_append] at this
          simp at h
          omega
    · rw [if_neg ht, if_neg (fun h => ht h.1)]
/-- a step of either way, the rest told by where it begins -/
theorem drop_at {T : List (List Int)} {i : Nat} {a : List Int} (h : T[i]? = some a) : T.drop i = a :: T.drop (i + 1) := by
  have hk := (List.getElem?_eq_some_iff.1 h).1
  rw [List.drop_eq_getElem_cons hk, (List.getElem?_eq_some_iff.1 h).2]
theorem treeP_go {T : List (List Int)} {i : Nat} {a stk : List Int} (h : T[i]? = some a) : treeP (T.drop i) i ((i : Int) :: stk) = treeP (T.drop (i + 1)) (i + 1) (a ++ stk) := by
  rw [drop_at h]; exact if_pos rfl
theorem treeP_other {T : List (List Int)} {i : Nat} {a stk : List Int} {t : Int} (h : T[i]? = some a) (ht : t ≠ (i : Int)) : treeP (T.drop i) i (t :: stk) = false := by
  rw [drop_at h]; exact if_neg ht
theorem treeP_none {T : List (List Int)} {i : Nat} {a : List Int} (h : T[i]? = some a) : treeP (T.drop i) i [] = false := by
  rw [drop_at h]; rfl
theorem treeP_end {T : List (List Int)} {stk : List Int} : treeP (T.drop T.length) T.length stk = stk.isEmpty := by
  rw [List.drop_length]; rfl
end Go.Proofs.YtilemieknfdjnaaGreat
namespace Go.Proofs.YtilemieknfdjnaaGreat
open Go Go.RowKit Go.Sort
set_option linter.unusedVariables false
/-- a fault -/
structure Fa where
  lst : Int
  pos : Int
  part : Int
  err : Int
def faV (f : Fa) : Value := .agg #[.int .i64 f.lst, .int .i64 f.pos, .int .i64 f.part, .int .i64 f.err]
/-- what is asked of an element: an error's number, or a fault that is thrown -/
inductive Out where
  | ret (k : Int)
  | thr (f : Fa)
def Out.fault (p : Fa) : Out → Option Fa
  | .ret k => if k = 0 then none else some { p with err := k }
  | .thr f => some f
def eachV {α : Type} (most : Nat) (pl : Nat → Fa) (one : Nat → α → Out) : Nat → List α → Option Fa
  | _, [] => none
  | i, x :: r => if i = most then some { pl i with err := 4 } else match (one i x).fault (pl i) with
    | some f => some f
    | none => eachV most pl one (i + 1) r
theorem eachV_none {α : Type} {most : Nat} {pl : Nat → Fa} {one : Nat → α → Out} : ∀ (l : List α) (i : Nat), i ≤ most → (eachV most pl one i l = none ↔ i + l.length ≤ most ∧ ∀ j x, l[j]? = some x → (one (i + j) x).fault (pl (i + j)) = none)
  | [], i, h => by simp [eachV, h]
  | x :: r, i, h => by
    rw [eachV]
    by_cases hm : i = most
    · subst hm
      simp
      omega
    · rw [if_neg hm]
      cases hf : (one i x).fault (pl i) with
      | some f =>
        simp only [reduceCtorEq, false_iff]
        rintro ⟨_, h2⟩
        have := h2 0 x rfl
        rw [Nat.add_zero, hf] at this
        cases this
      | none =>
        simp only
        rw [eachV_none r (i + 1) (by omega)]
        constructor
        · rintro ⟨h1, h2⟩
          refine ⟨by simp only [List.length_cons]; omega, fun j y hy => ?_⟩
          cases j with
          | zero => simp at hy; subst hy; exact hf
          | succ j => have := h2 j y (by simpa using hy); rwa [show i + 1 + j = i + (j + 1) from by omega] at this
        · rintro ⟨h1, h2⟩
          refine ⟨by simp only [List.length_cons] at h1; omega, fun j y hy => ?_⟩
          have := h2 (j + 1) y (by simpa using hy)
          rwa [show i + (j + 1) = i + 1 + j from by omega] at this
/-- the first k elements are without fault -/
def goodTo {α : Type} (most : Nat) (pl : Nat → Fa) (one : Nat → α → Out) (l : List α) (k : Nat) : Prop := k ≤ most ∧ ∀ j x, j < k → l[j]? = some x → (one j x).fault (pl j) = none
theorem eachV_skip {α : Type} {most : Nat} {pl : Nat → Fa} {one : Nat → α → Out} {l : List α} : ∀ {k : Nat}, goodTo most pl one l k → eachV most pl one 0 l = eachV most pl one k (l.drop k)
  | 0, _ => rfl
  | k + 1, h => by
    rw [eachV_skip (k := k) ⟨by have := h.1; omega, fun j x hj hx => h.2 j x (by omega) hx⟩]
    by_cases hk : k < l.length
    · rw [List.drop_eq_getElem_cons hk, eachV, if_neg (by have := h.1; omega), h.2 k _ (by omega) (List.getElem?_eq_getElem hk)]
    · rw [List.drop_eq_nil_of_le (by omega), List.drop_eq_nil_of_le (by omega)]; rfl
theorem goodTo_zero {α : Type} {most : Nat} {pl : Nat → Fa} {one : Nat → α → Out} {l : List α} : goodTo most pl one l 0 := ⟨Nat.zero_le _, fun j x hj _ => by omega⟩
theorem goodTo_next {α : Type} {most : Nat} {pl : Nat → Fa} {one : Nat → α → Out} {l : List α} {k : Nat} {x : α} (h : goodTo most pl one l k) (hm : k ≠ most) (hx : l[k]? = some x) (h0 : (one k x).fault (pl k) = none) : goodTo most pl one l (k + 1) :=
  ⟨by have := h.1; omega, fun j y hj hy => by
    by_cases e : j = k
    · subst e; rw [hx] at hy; cases hy; exact h0
    · exact h.2 j y (by omega) hy⟩
theorem eachV_end {α : Type} {most : Nat} {pl : Nat → Fa} {one : Nat → α → Out} {l : List α} {k : Nat} (h : goodTo most pl one l k) (hk : l.length ≤ k) : eachV most pl one 0 l = none := by
  rw [eachV_skip h, List.drop_eq_nil_of_le hk]; rfl
theorem eachV_at {α : Type} {most : Nat} {pl : Nat → Fa} {one : Nat → α → Out} {l : List α} {k : Nat} {x : α} {f : Fa} (h : goodTo most pl one l k) (hx : l[k]? = some x) (hf : (if k = most then some { pl k with err := 4 } else (one k x).fault (pl k)) = some f) : eachV most pl one 0 l = some f := by
  obtain ⟨hk, rfl⟩ := List.getElem?_eq_some_iff.1 hx
  rw [eachV_skip h, List.drop_eq_getElem_cons hk, eachV]
  split at hf
  · rename_i e; rw [if_pos e]; exact hf
  · rename_i e; rw [if_neg e, hf]
def outOf : Option Fa → Out
  | some f => .thr f
  | none => .ret 0
def nmB (s : ByteArray) : Bool := nameL s.data.toList
def bEq (a b : ByteArray) : Bool := a.toList == b.toList
/-- the error of an element's words, or of its having one ahead that is like it -/
def namedV (ws : List ByteArray) (twice : Bool) : Int := if ws.all nmB then (if twice then 40 else 0) else 2
def withinB (n lo hi : Int) : Bool := decide (lo ≤ n) && decide (n ≤ hi)
def elemF (i : Int) (k : Nat) : Fa := ⟨i, k, 0, 0⟩
def partF (i : Int) (pos ahead : Nat) (k : Nat) : Fa := ⟨i, pos, (ahead : Int) + k + 1, 0⟩
def ownF (x : LangM) : Option Fa := if nmB x.name then (if x.ver < 1 then some ⟨0, 1, 0, 2⟩ else none) else some ⟨0, 0, 0, 2⟩
def useO (nm : ByteArray) (l : List ByteArray) (i : Nat) (u : ByteArray) : Out := .ret (let e := namedV [u] ((l.take i).any fun y => bEq y u); if e = 0 then (if bEq u nm then 40 else 0) else e)
def propO (l : List PropD) (i : Nat) (p : PropD) : Out := .ret (let e := namedV [p.name] ((l.take i).any fun y => bEq y.name p.name); if e = 0 then (if withinB p.typ 1 4 then 0 else 41) else e)
def kidO (l : List KidD) (i : Nat) (p : KidD) : Out := .ret (let e := namedV [p.role, p.con] ((l.take i).any fun y => bEq y.role p.role); if e = 0 then (if withinB p.min 0 1 && withinB p.max 0 1 then 0 else 44) else e)
def refO (l : List RefD) (i : Nat) (p : RefD) : Out := .ret (namedV [p.role, p.con] ((l.take i).any fun y => bEq y.role p.role))
def orElse3 (a b c : Option Fa) : Option Fa := match a with
  | some f => some f
  | none => match b with
    | some f => some f
    | none => c
def partsF (c : ConD) (i : Nat) : Option Fa :=
  orElse3 (eachV 32 (partF 2 i 0) (propO c.props) 0 c.props) (eachV 32 (partF 2 i c.props.length) (kidO c.kids) 0 c.kids) (eachV 32 (partF 2 i (c.props.length + c.kids.length)) (refO c.refs) 0 c.refs)
def conO' (l : List (ConD × Leaf)) (i : Nat) (c : ConD × Leaf) : Out :=
  let e := namedV [c.1.name] ((l.take i).any fun y => bEq y.1.name c.1.name)
  if e = 0 then
    if !(bEq c.1.super ⟨#[]⟩) && !(nmB c.1.super) then .ret 2
    else if bEq c.1.super c.1.name then .ret 43
    else outOf (partsF c.1 i)
  else .ret e
def ruleO (l : List RuleD) (i : Nat) (r : RuleD) : Out := .ret (let e := namedV [r.con, r.name] ((l.take i).any fun y => bEq y.con r.con && bEq y.name r.name && y.scope == r.scope); if e = 0 then (if 4096 < r.expr.size then 3 else 0) else e)
def soundB (s : SideD) : Bool :=
  withinB s.kind 1 5 && (if s.kind = 1 then bEq s.name ⟨#[]⟩ else nmB s.name) && (s.num == 0 || (decide (0 < s.num) && s.kind == 2)) && (s.args.isEmpty || s.kind == 4)
def sideErr (l : List (SideD × Sl)) : Int := if 64 < l.length then 4 else if (l.any fun s => !(soundB s.1)) || !(treeP (l.map fun s => s.1.args) 0 [0]) then 2 else 0
def eqO (i : Nat) (q : EqM) : Out := if nmB q.con then outOf (eachV 2 (partF 4 i 0) (fun _ s => .ret (sideErr s)) 0 [q.ls, q.rs]) else .ret 2
def cellErr (kinds : Int) (c : CellD) : Int := if withinB c.kind 1 kinds then (if 4096 < c.text.size + c.mark.size then 3 else 0) else 2
def rowF (lst kinds : Int) (i : Nat) (l : List CellD) : Option Fa :=
  if 64 < l.length then some { partF lst i 0 64 with err := 4 } else eachV l.length (partF lst i 0) (fun _ c => .ret (cellErr kinds c)) 0 l
def rowO (lst kinds : Int) (l : List (RowD × Sl)) (i : Nat) (x : RowD × Sl) : Out :=
  let e := namedV [x.1.con] ((l.take i).any fun y => bEq y.1.con x.1.con)
  if e = 0 then outOf (rowF lst kinds i x.1.cells) else .ret e
def firstF : List (Option Fa) → Option Fa
  | [] => none
  | some f :: _ => some f
  | none :: r => firstF r
def langF (x : LangM) : Option Fa := firstF [ownF x, eachV 8 (elemF 1) (useO x.name x.us) 0 x.us, eachV 128 (elemF 2) (conO' x.cs) 0 x.cs, eachV 256 (elemF 3) (ruleO x.ru) 0 x.ru, eachV 256 (elemF 4) eqO 0 x.qs, eachV 256 (elemF 5) (rowO 5 6 x.es) 0 x.es, eachV 256 (elemF 6) (rowO 6 5 x.ts) 0 x.ts]
end Go.Proofs.YtilemieknfdjnaaGreat
namespace Go.Proofs.YtilemieknfdjnaaGreat
open Go Go.RowKit Go.Sort
set_option linter.unusedVariables false
/-- a fault is thrown -/
def Threw (w : World) (f : Fa) (e : Ending) (w' : World) : Prop := e = .panicked [{ v := .iface 66 (faV f), recovered := false }] ∧ Below w.heap.size w w'
/-- how an element's question ends -/
def Ends (w : World) (o : Out) (e : Ending) (w' : World) : Prop := match o with
  | .ret k => Ret w (.int .i64 k) e w'
  | .thr f => Threw w f e w'
/-- how a list's check ends -/
def Comes' (w : World) (o : Option Fa) (e : Ending) (w' : World) : Prop := match o with
  | none => Ret w (.tuple #[]) e w'
  | some f => Threw w f e w'
set_option maxHeartbeats 400000 in
theorem throw_any (w : World) (f : Fa) (k : Int) : Calls Tryz.prog 43 #[faV f, .int .i64 k] w (Threw w { f with err := k }) := by
  unfold faV
  go_enter Tryz.func43, Tryz.ntmps43
  go_wp2
  refine ⟨rfl, rfl, ?_⟩
  (repeat (first | exact Below.refl _ _ | refine below_more ?_ _ | refine Below.setCell' ?_ (Nat.le_refl _) _ | refine below_drew ?_ | refine below_drewN ?_ _))
/-- where an element is, told by a function value -/
structure Wher (w : World) (F : FuncId) (caps : Array Value) (pl : Nat → Fa) : Prop where
  enters : ∀ args X, Sem.run Tryz.prog (callFunc F args) X = .ok (.enter F args) X
  call : ∀ X, Below w.heap.size w X → ∀ k : Nat, k < 1125899906842624 → Calls Tryz.prog F (#[.int .i64 k] ++ caps) X (Ret X (faV (pl k)))
theorem Wher.after {w w' : World} {F : FuncId} {caps : Array Value} {pl : Nat → Fa} (h : Wher w F caps pl) (hb : Below w.heap.size w w') : Wher w' F caps pl := ⟨h.enters, fun X hX k hk => h.call X (hb.trans (hX.mono hb.size)) k hk⟩
theorem past_cell {w : World} {g i : Nat} {v : Value} (h : w.cell? ⟨g, i, none⟩ = some v) (hg : g < w.heap.size) (o : Obj) : (w.alloc o).cell? ⟨g, i, none⟩ = some v := (World.cell?_alloc_past (hn := hg) ..).trans h
set_option maxHeartbeats 400000 in
theorem elem1_any (w : World) (g : Nat) (i : Int) (h : w.cell? ⟨g, 0, none⟩ = some (.int .i64 i)) (hg : g < w.heap.size) (k : Nat) : Calls Tryz.prog 87 #[.int .i64 k, .pointer (some ⟨g, 0, none⟩)] w (Ret w (faV (elemF i k))) := by
  unfold faV elemF
  have h' := past_cell h hg
  go_enter Tryz.func87, Tryz.ntmps87
  go_wp2
  refine ⟨rfl, .agg #[.int .i64 i, .int .i64 k, .int .i64 0, .int .i64 0], by simp [results, Tryz.results87, go_sem], rfl, ?_⟩
  (repeat (first | exact Below.refl _ _ | refine below_more ?_ _ | refine Below.setCell' ?_ (Nat.le_refl _) _ | refine below_drew ?_ | refine below_drewN ?_ _))
set_option maxHeartbeats 400000 in
theorem elements_any (w : World) (i : Int) : Calls Tryz.prog 41 #[.int .i64 i] w (fun e w' => e = .returned (.func (.func 87) #[] #[.pointer (some ⟨w.heap.size, 0, none⟩)]) ∧ Blk w' w.heap.size 3 #[.int .i64 i] ∧ Below w.heap.size w w') := by
  have hmf : ∀ (fn : Fn) (first cap : Array Value) (w : World), (Instr.makeFunc fn first cap).run Tryz.prog w = .ok (.func fn first cap) w := fun _ _ _ _ => rfl
  go_enter Tryz.func41, Tryz.ntmps41
  go_wp2
  go_ret
  refine ⟨rfl, Blk.new' rfl, ?_⟩
  (repeat (first | exact Below.refl _ _ | refine below_more ?_ _ | refine Below.setCell' ?_ (Nat.le_refl _) _ | refine below_drew ?_ | refine below_drewN ?_ _))
set_option maxHeartbeats 400000 in
theorem parts1_any (w : World) (g1 g2 g3 : Nat) (i pos ahead : Int) (h1 : w.cell? ⟨g1, 0, none⟩ = some (.int .i64 i)) (h2 : w.cell? ⟨g2, 0, none⟩ = some (.int .i64 pos)) (h3 : w.cell? ⟨g3, 0, none⟩ = some (.int .i64 ahead)) (l1 : g1 < w.heap.size) (l2 : g2 < w.heap.size) (l3 : g3 < w.heap.size) (k : Nat) (hb : ahead + k + 1 < 9223372036854775808) (h0 : 0 ≤ ahead) :
    Calls Tryz.prog 97 #[.int .i64 k, .pointer (some ⟨g1, 0, none⟩), .pointer (some ⟨g2, 0, none⟩), .pointer (some ⟨g3, 0, none⟩)] w (Ret w (faV ⟨i, pos, ahead + k + 1, 0⟩)) := by
  unfold faV
  have h1' := past_cell h1 l1
  have h2' := past_cell h2 l2
  have h3' := past_cell h3 l3
  have e1 : IntKind.i64.wrap (ahead + k) = ahead + k := IntWalk.i64_in _ (by omega)
  have e2 : IntKind.i64.wrap (ahead + k + 1) = ahead + k + 1 := IntWalk.i64_in _ (by omega)
  go_enter Tryz.func97, Tryz.ntmps97
  go_wp2
  refine ⟨rfl, .agg #[.int .i64 i, .int .i64 pos, .int .i64 (ahead + k + 1), .int .i64 0], by simp [results, Tryz.results97, go_sem], rfl, ?_⟩
  (repeat (first | exact Below.refl _ _ | refine below_more ?_ _ | refine Below.setCell' ?_ (Nat.le_refl _) _ | refine below_drew ?_ | refine below_drewN ?_ _))
set_option maxHeartbeats 400000 in
theorem parts_any (w : World) (i pos ahead : Int) : Calls Tryz.prog 53 #[.int .i64 i, .int .i64 pos, .int .i64 ahead] w (fun e w' => ∃ g1 g2 g3, e = .returned (.func (.func 97) #[] #[.pointer (some ⟨g1, 0, none⟩), .pointer (some ⟨g2, 0, none⟩), .pointer (some ⟨g3, 0, none⟩)]) ∧ Blk w' g1 3 #[.int .i64 i] ∧ Blk w' g2 3 #[.int .i64 pos] ∧ Blk w' g3 3 #[.int .i64 ahead] ∧ Below w.heap.size w w') := by
  have hmf : ∀ (fn : Fn) (first cap : Array Value) (w : World), (Instr.makeFunc fn first cap).run Tryz.prog w = .ok (.func fn first cap) w := fun _ _ _ _ => rfl
  go_enter Tryz.func53, Tryz.ntmps53
  go_wp2
  go_ret
  refine ⟨_, _, _, rfl, Blk.alloc (Blk.alloc (Blk.new' rfl) _) _, Blk.alloc (Blk.new' (by simp)) _, Blk.new' (by simp), ?_⟩
  (repeat (first | exact Below.refl _ _ | refine below_more ?_ _ | refine Below.setCell' ?_ (Nat.le_refl _) _ | refine below_drew ?_ | refine below_drewN ?_ _))
theorem wher_elem {w : World} {g : Nat} {i : Int} (h : Blk w g 3 #[.int .i64 i]) : Wher w 87 #[.pointer (some ⟨g, 0, none⟩)] (elemF i) :=
  ⟨enters_of Tryz.func87 (by kernel_rfl) rfl, fun X hX k _ => elem1_any X g i (((h.after hX).cell 0).trans rfl) (h.after hX).lt k⟩
theorem wher_part {w : World} {g1 g2 g3 : Nat} {i : Int} {pos ahead : Nat} (h1 : Blk w g1 3 #[.int .i64 i]) (h2 : Blk w g2 3 #[.int .i64 (pos : Int)]) (h3 : Blk w g3 3 #[.int .i64 (ahead : Int)]) (ha : ahead < 4611686018427387904) : Wher w 97 #[.pointer (some ⟨g1, 0, none⟩), .pointer (some ⟨g2, 0, none⟩), .pointer (some ⟨g3, 0, none⟩)] (partF i pos ahead) :=
  ⟨enters_of Tryz.func97 (by kernel_rfl) rfl, fun X hX k hk => parts1_any X g1 g2 g3 i pos ahead (((h1.after hX).cell 0).trans rfl) (((h2.after hX).cell 0).trans rfl) (((h3.after hX).cell 0).trans rfl) (h1.after hX).lt (h2.after hX).lt (h3.after hX).lt k (by omega) (by omega)⟩
set_option maxHeartbeats 400000 in
theorem within_any (w : World) (n lo hi : Int) : Calls Tryz.prog 96 #[.int .i64 n, .int .i64 lo, .int .i64 hi] w (Ret w (.bool (withinB n lo hi))) := by
  unfold withinB
  go_enter Tryz.func96, Tryz.ntmps96
  go_wp2
  all_goals go_ret
  all_goals exact ret_b (by first | (simp [*]; done) | (rw [decide_eq_false (by omega : ¬ lo ≤ n)]; rfl)) rfl (Below.refl _ _)
end Go.Proofs.YtilemieknfdjnaaGreat

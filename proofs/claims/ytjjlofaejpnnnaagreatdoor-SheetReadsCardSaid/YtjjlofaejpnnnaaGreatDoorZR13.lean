/-
  WALKS over the document's sheet: refers.
-/
import Derived.Test.YtjjlofaejpnnnaaGreatDoorZR12
import Derived.Great.BuildSlice
import Derived.Deep.MidRow
namespace Go.Proofs.YtjjlofaejpnnnaaGreatDoor
open Go Go.RowKit Go.Sort
set_option linter.unusedVariables false
/-- a variable is made, ready alone -/
theorem wpAnyH_alloc1D {P : Program} {md : Region.Mode} {ops : Array Oper} {Q : Exit → Act → World → Prop} {S : World → Prop} {fuel : Nat} {listed : Array Bool} {a : Act} {w : World} {j : Nat} {oj : Oper} (T : TypeId) (z : Array Value)
    (hr : Region.ready md ops listed = [j]) (hoj : ops[j]? = some oj) (hgj : oj.guard = none)
    (hrj : ∀ (a : Act) (w : World), (execOp a.eval oj).run P w = .ok (.value (.pointer (some ⟨w.heap.size, 0, none⟩))) (w.alloc (.cells z T)))
    (hS : ∀ W, Below w.heap.size w W → S W)
    (h2 : ∀ g W, Blk W g T z → w.heap.size ≤ g → Below w.heap.size w W → S W → wpAnyH P md ops Q S fuel (listed.setIfInBounds j true) (a.put oj.dst (.pointer (some ⟨g, 0, none⟩))) W) : wpAnyH P md ops Q S (fuel + 1) listed a w := by
  refine wpAnyH_all hr (by simp) fun k hk => ?_
  obtain rfl : k = j := by simpa using hk
  have hw : Region.wanted oj (yielded ops a.tmps) = true := by simp [Region.wanted, hgj]
  unfold wpOp
  simp only [hoj]
  rw [if_pos hw]
  left
  unfold Oper.wp
  rw [hrj]
  exact ⟨hS _ ((Below.refl _ _).alloc (Nat.le_refl _) _), h2 _ _ (Blk.new _ _ _) (Nat.le_refl _) ((Below.refl _ _).alloc (Nat.le_refl _) _) (hS _ ((Below.refl _ _).alloc (Nat.le_refl _) _))⟩
theorem below_setRowD {B : Nat} {w X : World} {g : Nat} {cs : Array Value} (h : Below B w X) (hg : B ≤ g) : Below B w (X.setRow g cs) :=
  ⟨h.os, h.tape, h.output, by rw [show (X.setRow g cs).heap.size = X.heap.size from by simp [World.setRow]]; exact h.size, fun i hi => (setRow_other X g i cs (by omega)).trans (h.block i hi)⟩
theorem infoNode7 : (Tryz.prog.info? 55).map (·.size) = some 7 := by kernel_rfl
theorem one7 (nd : Nd) (Pa Ka Ra : Option Addr) (Pn Pc Kn Kc Rn Rc : Nat) : (#[Value.int .i64 nd.id, .string nd.con, .int .i64 nd.par, .string nd.role, .slice Pa Pn Pc, .slice Ka Kn Kc, .slice Ra Rn Rc] : Array Value).all (·.oneCell') = true := by simp [Value.oneCell']
theorem lessN_iff (a b : ByteArray) : (!Op.bytesLess a.toList b.toList) = false ↔ a.data.toList < b.data.toList := by
  rw [Go.Proofs.bytesLess_eq]
  simp only [Bool.not_eq_false', decide_eq_true_eq]
  rw [Lib.toList_data, Lib.toList_data]
theorem own_thereD {w : World} {B g n c k s : Nat} {e : TypeId} {xs : List Value} (h : w.ownsRow B e s (.slice (some ⟨g, 0, none⟩) n c) n xs) (hk : k < n) : w.there g (k * s) s := fun j hj => by
  have hle : (k + 1) * s ≤ n * s := Nat.mul_le_mul_right _ hk
  rw [Nat.add_mul, Nat.one_mul] at hle
  exact ⟨by rw [World.ownsRow.cellAt h (k * s + j) (by omega), List.getElem?_eq_getElem (by rw [h.1]; omega)]; rfl, World.ownsRow.frozenAt h _⟩
theorem UEnd.after {B0 B gu c : Nat} {next : Int} {v vd : Value} {l : List (Nd × Leaf)} {ws : List Int} {w W W' : World} (h : UEnd B0 B gu c next v vd l ws w W) (hs : B0 ≤ W.heap.size) (hb : Below W.heap.size W W') : UEnd B0 B gu c next v vd l ws w W' := ⟨h.bx.after hb, h.np.after hb, h.bel.trans (hb.mono hs)⟩
/-- behind the append: what the store back finds and makes -/
structure BackRef (B0 B gu c gx g n cc : Nat) (next : Int) (vd : Value) (l : List (Nd × Leaf)) (ws : List Int) (nd nd2 : Nd) (Pa Ka Ra Az : Option Addr) (Pn Pc Kn Kc Rn Rc cz : Nat) (L2 : Leaf) (w W' : World) : Prop where
  x : W'.cell? ⟨gx, 6, none⟩ = some (.slice Ra Rn Rc)
  f : W'.frozen? ⟨gx, 6, none⟩ = false
  z : ∀ Y, Below (W'.setCell ⟨gx, 6, none⟩ (.slice Az (Rn + 1) cz)).heap.size (W'.setCell ⟨gx, 6, none⟩ (.slice Az (Rn + 1) cz)) Y → Y.cell? ⟨gu, 1, none⟩ = some (.slice (some ⟨g, 0, none⟩) n cc) ∧ Y.cell? ⟨gx, 0, none⟩ = some (.int .i64 nd.id) ∧ Y.cell? ⟨gx, 1, none⟩ = some (.string nd.con) ∧ Y.cell? ⟨gx, 2, none⟩ = some (.int .i64 nd.par) ∧ Y.cell? ⟨gx, 3, none⟩ = some (.string nd.role) ∧ Y.cell? ⟨gx, 4, none⟩ = some (.slice Pa Pn Pc) ∧ Y.cell? ⟨gx, 5, none⟩ = some (.slice Ka Kn Kc) ∧ Y.cell? ⟨gx, 6, none⟩ = some (.slice Az (Rn + 1) cz)
  th : (W'.setCell ⟨gx, 6, none⟩ (.slice Az (Rn + 1) cz)).drew.there g ((n - 1) * 7) 7
  en : UEnd B0 B gu c next (.slice (some ⟨g, 0, none⟩) n cc) vd (l.set (n - 1) (nd2, L2)) ws w ((W'.setCell ⟨gx, 6, none⟩ (.slice Az (Rn + 1) cz)).drew.setCells g ((n - 1) * 7) [.int .i64 nd.id, .string nd.con, .int .i64 nd.par, .string nd.role, .slice Pa Pn Pc, .slice Ka Kn Kc, .slice Az (Rn + 1) cz])
theorem UMid.backRef {B0 B gu c gx g n cc : Nat} {next : Int} {vd : Value} {l : List (Nd × Leaf)} {ws : List Int} {nd : Nd} {Pa Ka Ra Az : Option Addr} {Pn Pc Kn Kc Rn Rc cz : Nat} {w W W' : World} {y : ByteArray × Int} (h : UMid B0 B gu c gx next (.slice (some ⟨g, 0, none⟩) n cc) vd l ws #[.int .i64 nd.id, .string nd.con, .int .i64 nd.par, .string nd.role, .slice Pa Pn Pc, .slice Ka Kn Kc, .slice Ra Rn Rc] w W) (hl : l.length = n) (hn0 : 0 < n) (hi : l[n - 1]? = some (nd, ⟨⟨Pa, Pn, Pc⟩, ⟨Ka, Kn, Kc⟩, ⟨Ra, Rn, Rc⟩⟩)) (hy : y.1.size ≤ maxLen)
    (ho : W'.ownsRow B 62 2 (.slice Az (Rn + 1) cz) (Rn + 1) (refCells nd.refs ++ [.string y.1, .int .i64 y.2])) (hg : W.grownBy W' (Value.slice Ra Rn Rc).ownBlock) (hnew : (Value.slice Az (Rn + 1) cz).ownBlock = (Value.slice Ra Rn Rc).ownBlock ∨ (Value.slice Az (Rn + 1) cz).ownBlock = some W.heap.size) :
    BackRef B0 B gu c gx g n cc next vd l ws nd { nd with refs := nd.refs ++ [y] } Pa Ka Ra Az Pn Pc Kn Kc Rn Rc cz ⟨⟨Pa, Pn, Pc⟩, ⟨Ka, Kn, Kc⟩, ⟨Az, Rn + 1, cz⟩⟩ w W' := by
  have hkr : W.ownsRow B 62 2 (.slice Ra Rn Rc) Rn (refCells nd.refs) := (h.np.leaf _ (List.mem_of_getElem? hi)).r
  have hgx : gx ≠ g := fun e => h.gv (by rw [e]; rfl)
  have hb := h.bx.grown hg (Ne.symm (own_blk_ne hkr h.bx (by decide)))
  have hx := h.bn.grown hg (Ne.symm (own_blk_ne hkr h.bn (by decide)))
  have hgu : gu ≠ gx := h.bx.ne_ h.bn (by decide)
  have hZu : Blk (W'.setCell ⟨gx, 6, none⟩ (.slice Az (Rn + 1) cz)) gu 51 (udBox next (.slice (some ⟨g, 0, none⟩) n cc) vd c) := hb.far (p := ⟨gx, _, none⟩) hgu _
  have hZx : Blk (W'.setCell ⟨gx, 6, none⟩ (.slice Az (Rn + 1) cz)) gx 55 #[.int .i64 nd.id, .string nd.con, .int .i64 nd.par, .string nd.role, .slice Pa Pn Pc, .slice Ka Kn Kc, .slice Az (Rn + 1) cz] := by simpa using hx.set_ 6 (.slice Az (Rn + 1) cz)
  have hoW : OwnN W' B (.slice (some ⟨g, 0, none⟩) n cc) l := h.np.keptN hkr (by decide) hg
  have hoZ : OwnN (W'.setCell ⟨gx, 6, none⟩ (.slice Az (Rn + 1) cz)) B (.slice (some ⟨g, 0, none⟩) n cc) l := World.ownsRow.kept hoW (row := some gx) ⟨rfl, rfl, rfl, by simp, fun k _ hk => heap_setCell_other W' ⟨gx, _, none⟩ k _ (fun e => hk (by simp [e]))⟩ (.inr h.gv)
  have hnz := nodes_cells hl hoZ hi
  have hen := h.ref hl hi hy ho hg hnew
  have hsz : B0 ≤ ((W'.setCell ⟨gx, 6, none⟩ (.slice Az (Rn + 1) cz)).setCell ⟨g, (n - 1) * 7 + 6, none⟩ (.slice Az (Rn + 1) cz)).heap.size := Nat.le_trans h.l0 (Nat.le_of_lt hen.bx.lt)
  have hen2 := hen.after hsz (drewS_below _)
  have hoZ2 : (W'.setCell ⟨gx, 6, none⟩ (.slice Az (Rn + 1) cz)).drew.ownsRow B 55 7 (.slice (some ⟨g, 0, none⟩) n cc) n (allCells l) := by subst hl; exact own_after hoZ (drewS_below _)
  obtain ⟨cz1, hgB, _, _⟩ := own_blk hoZ2
  refine ⟨by rw [hx.cell]; rfl, hx.frozen _, fun Y hY => ?_, own_thereD hoZ2 (by omega), ?_⟩
  · have b1 := hZu.after hY
    have b2 := hZx.after hY
    exact ⟨by rw [b1.cell]; rfl, by rw [b2.cell]; rfl, by rw [b2.cell]; rfl, by rw [b2.cell]; rfl, by rw [b2.cell]; rfl, by rw [b2.cell]; rfl, by rw [b2.cell]; rfl, by rw [b2.cell]; rfl⟩
  · have e := seven_ref (X := (W'.setCell ⟨gx, 6, none⟩ (.slice Az (Rn + 1) cz)).drew) (g := g) (o := (n - 1) * 7) (a6 := .slice Az (Rn + 1) cz) hgB hnz.c0 hnz.c1 hnz.c2 hnz.c3 hnz.c4 hnz.c5
    have e2 : (W'.setCell ⟨gx, 6, none⟩ (.slice Az (Rn + 1) cz)).drew.setCells g ((n - 1) * 7) [.int .i64 nd.id, .string nd.con, .int .i64 nd.par, .string nd.role, .slice Pa Pn Pc, .slice Ka Kn Kc, .slice Az (Rn + 1) cz] = seven (W'.setCell ⟨gx, 6, none⟩ (.slice Az (Rn + 1) cz)).drew g ((n - 1) * 7) (.int .i64 nd.id) (.string nd.con) (.int .i64 nd.par) (.string nd.role) (.slice Pa Pn Pc) (.slice Ka Kn Kc) (.slice Az (Rn + 1) cz) := rfl
    rw [e2, e]
    exact hen2
set_option maxRecDepth 20000 in
set_option maxHeartbeats 6400000 in
theorem refersD_last (w : World) (B0 B gu c k n cc g : Nat) (vd : Value) (l : List (Nd × Leaf)) (st : RS) (h : UIn B gu c k (.slice (some ⟨g, 0, none⟩) n cc) vd l st w) (h0 : st.next ≠ 0) (hB0 : B0 ≤ gu) (hn : st.nds.length = n) (hn0 : 0 < n)
    (nd : Nd) (Pa Ka Ra : Option Addr) (Pn Pc Kn Kc Rn Rc : Nat) (hl : st.nds.getLast? = some nd) (hi : l[n - 1]? = some (nd, ⟨⟨Pa, Pn, Pc⟩, ⟨Ka, Kn, Kc⟩, ⟨Ra, Rn, Rc⟩⟩)) (a s : ByteArray) (hs : s.size ≤ 1048576) (ha : a.size ≤ 1048576) (hk : k + 1 ≤ 4194304) :
    Calls Tryz.prog 53 #[.pointer (some ⟨gu, 0, none⟩), .string a, .string s] w (LineU B0 B gu c (k + 1) (refersV st nd a.data.toList s.data.toList) w) := by
  have hok := h.ok h0
  have hn1 := hok.n1
  have hn2 := hok.n2
  have hn4 : n ≤ 4096 := by have := hok.ln; omega
  have hgw : g < w.heap.size := (World.ownsRow.lt h.np.own g rfl).2
  have HLX : Hid (l.length = n) := Lib.hid (by rw [h.len]; exact hn)
  have hlf := h.np.leaf _ (List.mem_of_getElem? hi)
  have HPN : Hid (Rn = nd.refs.length ∧ Rn ≤ k) := Lib.hid ⟨hlf.rn, by have := hlf.rn; have h2 := (h.ln nd (List.mem_of_getElem? (last_get hl).2)).2.2; simp only at this; omega⟩
  have hpk : Rn ≤ 4194304 := by have := HPN.out.2; omega
  have HI := Lib.hid hi
  have hBw : B0 ≤ w.heap.size := Nat.le_trans hB0 (Nat.le_of_lt h.box.lt)
  have hwn : IntKind.i64.wrap ((n : Int) - 1) = ((n - 1 : Nat) : Int) := by rw [IntWalk.i64_in _ (by omega)]; omega
  have hin : n - 1 < n := by omega
  have HCs : Hid (∀ Y, Below w.heap.size w Y → Y.cell? ⟨gu, 1, none⟩ = some (.slice (some ⟨g, 0, none⟩) n cc) ∧ Y.cell? ⟨g, (n - 1) * 7, none⟩ = some (.int .i64 nd.id) ∧ Y.cell? ⟨g, (n - 1) * 7 + 1, none⟩ = some (.string nd.con) ∧ Y.cell? ⟨g, (n - 1) * 7 + 2, none⟩ = some (.int .i64 nd.par) ∧ Y.cell? ⟨g, (n - 1) * 7 + 3, none⟩ = some (.string nd.role) ∧ Y.cell? ⟨g, (n - 1) * 7 + 4, none⟩ = some (.slice Pa Pn Pc) ∧ Y.cell? ⟨g, (n - 1) * 7 + 5, none⟩ = some (.slice Ka Kn Kc) ∧ Y.cell? ⟨g, (n - 1) * 7 + 6, none⟩ = some (.slice Ra Rn Rc)) := Lib.hid fun Y hY => by
    have e := (h.np.after hY).cells HLX.out hi
    exact ⟨by rw [(h.box.after hY).cell]; rfl, e.c0, e.c1, e.c2, e.c3, e.c4, e.c5, e.c6⟩
  have HMID : Hid (∀ (gx : Nat) (X : World), Blk X gx 55 #[.int .i64 0, .string ByteArray.empty, .int .i64 0, .string ByteArray.empty, .slice none 0 0, .slice none 0 0, .slice none 0 0] → w.heap.size ≤ gx → Below w.heap.size w X → UMid B0 B gu c gx st.next (.slice (some ⟨g, 0, none⟩) n cc) vd l (deepI st.deep) #[.int .i64 nd.id, .string nd.con, .int .i64 nd.par, .string nd.role, .slice Pa Pn Pc, .slice Ka Kn Kc, .slice Ra Rn Rc] w (X.setRow gx #[.int .i64 nd.id, .string nd.con, .int .i64 nd.par, .string nd.role, .slice Pa Pn Pc, .slice Ka Kn Kc, .slice Ra Rn Rc])) := Lib.hid fun gx X hx hg hb => by
    have hb2 : Below w.heap.size w (X.setRow gx #[.int .i64 nd.id, .string nd.con, .int .i64 nd.par, .string nd.role, .slice Pa Pn Pc, .slice Ka Kn Kc, .slice Ra Rn Rc]) := below_setRowD hb hg
    exact ⟨h.box.after hb2, h.np.after hb2, setRow_heap _ _ _ _ _ _ hx, hb2.mono hBw, hB0, h.lu, Nat.le_trans hBw hg, fun e => by have : g = gx := Option.some.inj e; omega⟩
  have HFIN : Hid (∀ (y : Int) (Ar : Option Addr) (cr : Nat) (W : World), UEnd B0 B gu c st.next (.slice (some ⟨g, 0, none⟩) n cc) vd (l.set (n - 1) ({ nd with refs := nd.refs ++ [(a, y)] }, ⟨⟨Pa, Pn, Pc⟩, ⟨Ka, Kn, Kc⟩, ⟨Ar, Rn + 1, cr⟩⟩)) (deepI st.deep) w W → LineU B0 B gu c (k + 1) (some (lastV st { nd with refs := nd.refs ++ [(a, y)] })) w (.returned (.bool true)) W) := Lib.hid fun y Ar cr W hE => by
    have h2 := h.ln nd (List.mem_of_getElem? (last_get hl).2)
    exact lineU_yes rfl hE.bel (h.lastSet h0 hl rfl hn hE.bx hE.np (by simp only [List.length_append, List.length_singleton]; omega) hk)
  have HPR : Hid (∀ (W : World) {ws : List Int}, NP B (.slice (some ⟨g, 0, none⟩) n cc) vd l ws W → W.ownsRow B 62 2 (.slice Ra Rn Rc) Rn (refCells nd.refs)) := Lib.hid fun W ws hW => (hW.leaf _ (List.mem_of_getElem? hi)).r
  have hszs := hlf.sz.refs
  obtain ⟨i1, hi1, hz1, hs1, hb1⟩ := info_parts refInfo
  clear h hlf hl hn hi hok
  go_enter Tryz.func53, Tryz.ntmps53
  go_upto_region 1 with (fail)
  refine wp_region_held_tail 13 (fun Y => Below w.heap.size w Y ∧ Y.cell? ⟨gu, 1, none⟩ = some (.slice (some ⟨g, 0, none⟩) n cc) ∧ Y.cell? ⟨g, (n - 1) * 7, none⟩ = some (.int .i64 nd.id) ∧ Y.cell? ⟨g, (n - 1) * 7 + 1, none⟩ = some (.string nd.con) ∧ Y.cell? ⟨g, (n - 1) * 7 + 2, none⟩ = some (.int .i64 nd.par) ∧ Y.cell? ⟨g, (n - 1) * 7 + 3, none⟩ = some (.string nd.role) ∧ Y.cell? ⟨g, (n - 1) * 7 + 4, none⟩ = some (.slice Pa Pn Pc) ∧ Y.cell? ⟨g, (n - 1) * 7 + 5, none⟩ = some (.slice Ka Kn Kc) ∧ Y.cell? ⟨g, (n - 1) * 7 + 6, none⟩ = some (.slice Ra Rn Rc)) (by kernel_rfl) (by kernel_rfl) ?hS1 (fun hHeld => ?q1)
  case hS1 => exact ⟨drewS_below w, HCs.out _ (drewS_below w)⟩
  case q1 =>
    simp only [List.take_succ_cons, List.take_zero, List.drop_succ_cons, List.drop_zero]
    refine wpAnyH_take (i := 0) (oi := ⟨some 11, _, _, _, _, _⟩) (v := (.pointer (some ⟨gu, 0, none⟩))) rfl (by kernel_rfl) (by kernel_rfl) (by kernel_rfl) (fun _ _ _ h => h) (Or.inl ⟨by rfl, ?ya_1⟩) (by assumption) ?qa_1
    case ya_1 => (intro w hSw; (try dsimp only at hSw); go_simp)
    case qa_1 =>
      (try simp only [Act.put]); (try simp only [List.setIfInBounds_toArray])
      refine wpAnyH_take (i := 1) (oi := ⟨some 12, _, _, _, _, _⟩) (v := (.pointer (some ⟨gu, 0, none⟩))) rfl (by kernel_rfl) (by kernel_rfl) (by kernel_rfl) (fun _ _ _ h => h) (Or.inl ⟨by rfl, ?ya_2⟩) (by assumption) ?qa_2
      case ya_2 => (intro w hSw; (try dsimp only at hSw); go_simp)
      case qa_2 =>
        (try simp only [Act.put]); (try simp only [List.setIfInBounds_toArray])
        refine wpAnyH_take (i := 2) (oi := ⟨some 13, _, _, _, _, _⟩) (v := (.pointer (some ⟨gu, 1, none⟩))) rfl (by kernel_rfl) (by kernel_rfl) (by kernel_rfl) (fun _ _ _ h => h) (Or.inl ⟨by rfl, ?ya_3⟩) (by assumption) ?qa_3
        case ya_3 => (intro w hSw; (try dsimp only at hSw); go_simp)
        case qa_3 =>
          (try simp only [Act.put]); (try simp only [List.setIfInBounds_toArray])
          refine wpAnyH_take (i := 3) (oi := ⟨some 14, _, _, _, _, _⟩) (v := (.slice (some ⟨g, 0, none⟩) n cc)) rfl (by kernel_rfl) (by kernel_rfl) (by kernel_rfl) (fun _ _ _ h => h) (Or.inl ⟨by rfl, ?ya_4⟩) (by assumption) ?qa_4
          case ya_4 => (intro w hSw; (try dsimp only at hSw); go_simp)
          case qa_4 =>
            (try simp only [Act.put]); (try simp only [List.setIfInBounds_toArray])
            refine wpAnyH_take (i := 4) (oi := ⟨some 15, _, _, _, _, _⟩) (v := (.pointer (some ⟨gu, 0, none⟩))) rfl (by kernel_rfl) (by kernel_rfl) (by kernel_rfl) (fun _ _ _ h => h) (Or.inl ⟨by rfl, ?ya_5⟩) (by assumption) ?qa_5
            case ya_5 => (intro w hSw; (try dsimp only at hSw); go_simp)
            case qa_5 =>
              (try simp only [Act.put]); (try simp only [List.setIfInBounds_toArray])
              refine wpAnyH_take (i := 5) (oi := ⟨some 16, _, _, _, _, _⟩) (v := (.pointer (some ⟨gu, 0, none⟩))) rfl (by kernel_rfl) (by kernel_rfl) (by kernel_rfl) (fun _ _ _ h => h) (Or.inl ⟨by rfl, ?ya_6⟩) (by assumption) ?qa_6
              case ya_6 => (intro w hSw; (try dsimp only at hSw); go_simp)
              case qa_6 =>
                (try simp only [Act.put]); (try simp only [List.setIfInBounds_toArray])
                refine wpAnyH_take (i := 6) (oi := ⟨some 17, _, _, _, _, _⟩) (v := (.pointer (some ⟨gu, 1, none⟩))) rfl (by kernel_rfl) (by kernel_rfl) (by kernel_rfl) (fun _ _ _ h => h) (Or.inl ⟨by rfl, ?ya_7⟩) (by assumption) ?qa_7
                case ya_7 => (intro w hSw; (try dsimp only at hSw); go_simp)
                case qa_7 =>
                  (try simp only [Act.put]); (try simp only [List.setIfInBounds_toArray])
                  refine wpAnyH_take (i := 7) (oi := ⟨some 18, _, _, _, _, _⟩) (v := (.slice (some ⟨g, 0, none⟩) n cc)) rfl (by kernel_rfl) (by kernel_rfl) (by kernel_rfl) (fun _ _ _ h => h) (Or.inl ⟨by rfl, ?ya_8⟩) (by assumption) ?qa_8
                  case ya_8 => (intro w hSw; (try dsimp only at hSw); go_simp)
                  case qa_8 =>
                    (try simp only [Act.put]); (try simp only [List.setIfInBounds_toArray])
                    refine wpAnyH_take (i := 8) (oi := ⟨some 19, _, _, _, _, _⟩) (v := (.int .i64 (n : Int))) rfl (by kernel_rfl) (by kernel_rfl) (by kernel_rfl) (fun _ _ _ h => h) (Or.inl ⟨by rfl, ?ya_9⟩) (by assumption) ?qa_9
                    case ya_9 => (intro w hSw; (try dsimp only at hSw); go_simp)
                    case qa_9 =>
                      (try simp only [Act.put]); (try simp only [List.setIfInBounds_toArray])
                      refine wpAnyH_take (i := 9) (oi := ⟨some 20, _, _, _, _, _⟩) (v := (.int .i64 ((n - 1 : Nat) : Int))) rfl (by kernel_rfl) (by kernel_rfl) (by kernel_rfl) (fun _ _ _ h => h) (Or.inl ⟨by rfl, ?ya_10⟩) (by assumption) ?qa_10
                      case ya_10 => (intro w hSw; (try dsimp only at hSw); go_simp)
                      case qa_10 =>
                        (try simp only [Act.put]); (try simp only [List.setIfInBounds_toArray])
                        refine wpAnyH_take (i := 10) (oi := ⟨some 21, _, _, _, _, _⟩) (v := (.pointer (some ⟨g, (n - 1) * 7, none⟩))) rfl (by kernel_rfl) (by kernel_rfl) (by kernel_rfl) (fun _ _ _ h => h) (Or.inl ⟨by rfl, ?ya_11⟩) (by assumption) ?qa_11
                        case ya_11 => (intro w hSw; (try dsimp only at hSw); go_simp)
                        case qa_11 =>
                          (try simp only [Act.put]); (try simp only [List.setIfInBounds_toArray])
                          refine wpAnyH_take (i := 11) (oi := ⟨some 22, _, _, _, _, _⟩) (v := (.agg #[.int .i64 nd.id, .string nd.con, .int .i64 nd.par, .string nd.role, .slice Pa Pn Pc, .slice Ka Kn Kc, .slice Ra Rn Rc])) rfl (by kernel_rfl) (by kernel_rfl) (by kernel_rfl) (fun _ _ _ h => h) (Or.inl ⟨by rfl, ?ya_12⟩) (by assumption) ?qa_12
                          case ya_12 => (intro w hSw; (try dsimp only at hSw); go_simp)
                          case qa_12 =>
                            (try simp only [Act.put]); (try simp only [List.setIfInBounds_toArray])
                            refine wpAnyH_alloc1D (j := 12) (oj := ⟨some 7, _, _, _, _, _⟩) 55 #[.int .i64 0, .string ByteArray.empty, .int .i64 0, .string ByteArray.empty, .slice none 0 0, .slice none 0 0, .slice none 0 0] (by kernel_rfl) rfl rfl ?hrk (fun W2 hW2 => ⟨(drewS_below w).trans (hW2.mono (drewS_below w).size), HCs.out _ ((drewS_below w).trans (hW2.mono (drewS_below w).size))⟩) ?b1
                            case hrk => (intro a9 w9; go_simp; rfl)
                            case b1 =>
                              intro gx X hbx hgx hbX hS2
                              have HW1 : Hid (UMid B0 B gu c gx st.next (.slice (some ⟨g, 0, none⟩) n cc) vd l (deepI st.deep) #[.int .i64 nd.id, .string nd.con, .int .i64 nd.par, .string nd.role, .slice Pa Pn Pc, .slice Ka Kn Kc, .slice Ra Rn Rc] w (X.setRow gx #[.int .i64 nd.id, .string nd.con, .int .i64 nd.par, .string nd.role, .slice Pa Pn Pc, .slice Ka Kn Kc, .slice Ra Rn Rc])) := Lib.hid (HMID.out gx X hbx hgx ((drewS_below w).trans (hbX.mono (drewS_below w).size)))
                              have HBX := Lib.hid hbx
                              clear hS2 hbX hHeld
                              (try simp only [Act.put]); (try simp only [List.setIfInBounds_toArray])
                              refine wpAnyH_done (by kernel_rfl) ?_ _
                              show wpList _ _ _ _ _ _
                              refine wpList_store_rowTo rfl 55 _ _ rfl rfl gx #[.int .i64 nd.id, .string nd.con, .int .i64 nd.par, .string nd.role, .slice Pa Pn Pc, .slice Ka Kn Kc, .slice Ra Rn Rc] rfl rfl 55 #[.int .i64 0, .string ByteArray.empty, .int .i64 0, .string ByteArray.empty, .slice none 0 0, .slice none 0 0, .slice none 0 0] HBX.out infoNode7 rfl (one7 nd _ _ _ _ _ _ _ _ _) ?_
                              clear hbx hgx HBX
                              generalize X.setRow gx #[.int .i64 nd.id, .string nd.con, .int .i64 nd.par, .string nd.role, .slice Pa Pn Pc, .slice Ka Kn Kc, .slice Ra Rn Rc] = W1 at HW1 ⊢
                              clear X
                              have c0 : W1.cell? ⟨gu, 0, none⟩ = some (.int .i64 st.next) := by rw [HW1.out.bx.cell]; rfl
                              have x6 : W1.cell? ⟨gx, 6, none⟩ = some (.slice Ra Rn Rc) := by rw [HW1.out.bn.cell]; rfl
                              have HNO : Hid (refersV st nd a.data.toList s.data.toList = none → LineU B0 B gu c (k + 1) (refersV st nd a.data.toList s.data.toList) w (.returned (.bool false)) W1) := Lib.hid fun hr => lineU_no hr HW1.out.bel (by rw [HW1.out.bx.cell]; rfl)
                              have HNU := Lib.hid (numberD_any s st.next W1 (by unfold maxLen; omega))
                              cases hnv : numberV s.data.toList st.next with
                              | none =>
                                rw [hnv] at HNU
                                have HN := Lib.hid (HNO.out (refersV_no1 hnv))
                                clear hnv HNO
                                go_wp2_with (go_at_call 50; refine HNU.out.mono ?_; rintro e w4 ⟨rfl, rfl⟩; (try simp only [Option.getD_some, Option.getD_none, Option.isSome_some, Option.isSome_none]))
                                go_ret
                                exact HN.out
                              | some y =>
                                rw [hnv] at HNU
                                by_cases hP : Rn = 0
                                · have HLT : Hid (∀ p ∈ nd.refs.getLast?, p.1.data.toList < a.data.toList) := Lib.hid fun p hp => by
                                    have : nd.refs = [] := List.eq_nil_of_length_eq_zero (by have := HPN.out.1; omega)
                                    rw [this] at hp; cases hp
                                  have hP0 : ¬ (0 : Int) < (Rn : Int) := by omega
                                  clear hP hszs
                                  have HFY : Hid (refersV st nd a.data.toList s.data.toList = some (lastV st { nd with refs := nd.refs ++ [(a, y)] })) := Lib.hid (refersV_some hnv HLT.out)
                                  have HFIN2 : Hid (∀ (Az : Option Addr) (cz : Nat) (W : World), UEnd B0 B gu c st.next (.slice (some ⟨g, 0, none⟩) n cc) vd (l.set (n - 1) ({ nd with refs := nd.refs ++ [(a, y)] }, ⟨⟨Pa, Pn, Pc⟩, ⟨Ka, Kn, Kc⟩, ⟨Az, Rn + 1, cz⟩⟩)) (deepI st.deep) w W → LineU B0 B gu c (k + 1) (refersV st nd a.data.toList s.data.toList) w (.returned (.bool true)) W) := Lib.hid fun Az cz W hE => by rw [HFY.out]; exact HFIN.out y Az cz W hE
                                  clear hnv HNO HFY HFIN
                                  go_upto_region 6 with (go_at_call 50; refine HNU.out.mono ?_; rintro e w4 ⟨rfl, rfl⟩; (try simp only [Option.getD_some, Option.getD_none, Option.isSome_some, Option.isSome_none]))
                                  have HMD := Lib.hid (HW1.out.after (W' := (W1.alloc (.cells #[.string a, .int .i64 y] 62))) ((Below.refl _ _).alloc (Nat.le_refl _) _))
                                  have HRq : Hid (Row (W1.alloc (.cells #[.string a, .int .i64 y] 62)) W1.heap.size (W1.heap.size + 1) 2 (some ⟨W1.heap.size, 0, none⟩) 1 1 [.string a, .int .i64 y]) := Lib.hid (row_blk (Blk.new _ _ _) rfl (Nat.le_refl _) (by unfold maxLen; omega))
                                  have HSZ : Hid (a.size ≤ maxLen) := Lib.hid (by unfold maxLen; omega)
                                  go_upto_region 7 with (at_builtin; with_reducible show wpList _ _ _ (⟨some 58, _, _, _, _, _⟩ :: _) _ _; go_must (refine wpList_appS (o := ⟨some 58, _, _, _, _, _⟩) _ rfl (.tmp 53) (.tmp 57) _ rfl B 62 i1 _ 2 24 Tryz.underlying53 hi1 hz1 hs1 hb1 rfl (by omega) (.slice Ra Rn Rc) Rn (refCells nd.refs) (by go_simp) (HPR.out _ HMD.out.np) W1.heap.size (W1.heap.size + 1) (some ⟨W1.heap.size, 0, none⟩) 1 1 [.string a, .int .i64 y] (by go_simp) HRq.out (by simp [Value.oneCell']) (by unfold maxLen; omega) (by omega) HMD.out.np.hB ?_); go_must (intro Az cz w2 hownN hgrN hnewN; have HBK := Lib.hid (HMD.out.backRef (y := (a, y)) HLX.out hn0 HI.out HSZ.out hownN hgrN hnewN); have y6 := HBK.out.x; have f6 := HBK.out.f; clear hownN hgrN hnewN))
                                  have HEND := Lib.hid (HFIN2.out _ _ _ HBK.out.en)
                                  refine wp_region_held_tail 12 (fun Y => Below (w2.setCell ⟨gx, 6, none⟩ (.slice Az (Rn + 1) cz)).heap.size (w2.setCell ⟨gx, 6, none⟩ (.slice Az (Rn + 1) cz)) Y ∧ Y.cell? ⟨gu, 1, none⟩ = some (.slice (some ⟨g, 0, none⟩) n cc) ∧ Y.cell? ⟨gx, 0, none⟩ = some (.int .i64 nd.id) ∧ Y.cell? ⟨gx, 1, none⟩ = some (.string nd.con) ∧ Y.cell? ⟨gx, 2, none⟩ = some (.int .i64 nd.par) ∧ Y.cell? ⟨gx, 3, none⟩ = some (.string nd.role) ∧ Y.cell? ⟨gx, 4, none⟩ = some (.slice Pa Pn Pc) ∧ Y.cell? ⟨gx, 5, none⟩ = some (.slice Ka Kn Kc) ∧ Y.cell? ⟨gx, 6, none⟩ = some (.slice Az (Rn + 1) cz)) (by kernel_rfl) (by kernel_rfl) ?hS7 (fun hHeld => ?q7)
                                  case hS7 => exact ⟨drewS_below _, HBK.out.z _ (drewS_below _)⟩
                                  case q7 =>
                                    simp only [List.take_succ_cons, List.take_zero, List.drop_succ_cons, List.drop_zero]
                                    refine wpAnyH_take (i := 0) (oi := ⟨some 60, _, _, _, _, _⟩) (v := (.pointer (some ⟨gu, 0, none⟩))) rfl (by kernel_rfl) (by kernel_rfl) (by kernel_rfl) (fun _ _ _ h => h) (Or.inl ⟨by rfl, ?yb_1⟩) (by assumption) ?qb_1
                                    case yb_1 => (intro w hSw; (try dsimp only at hSw); go_simp)
                                    case qb_1 =>
                                      (try simp only [Act.put]); (try simp only [List.setIfInBounds_toArray])
                                      refine wpAnyH_take (i := 1) (oi := ⟨some 61, _, _, _, _, _⟩) (v := (.pointer (some ⟨gu, 0, none⟩))) rfl (by kernel_rfl) (by kernel_rfl) (by kernel_rfl) (fun _ _ _ h => h) (Or.inl ⟨by rfl, ?yb_2⟩) (by assumption) ?qb_2
                                      case yb_2 => (intro w hSw; (try dsimp only at hSw); go_simp)
                                      case qb_2 =>
                                        (try simp only [Act.put]); (try simp only [List.setIfInBounds_toArray])
                                        refine wpAnyH_take (i := 2) (oi := ⟨some 62, _, _, _, _, _⟩) (v := (.pointer (some ⟨gu, 1, none⟩))) rfl (by kernel_rfl) (by kernel_rfl) (by kernel_rfl) (fun _ _ _ h => h) (Or.inl ⟨by rfl, ?yb_3⟩) (by assumption) ?qb_3
                                        case yb_3 => (intro w hSw; (try dsimp only at hSw); go_simp)
                                        case qb_3 =>
                                          (try simp only [Act.put]); (try simp only [List.setIfInBounds_toArray])
                                          refine wpAnyH_take (i := 3) (oi := ⟨some 63, _, _, _, _, _⟩) (v := (.slice (some ⟨g, 0, none⟩) n cc)) rfl (by kernel_rfl) (by kernel_rfl) (by kernel_rfl) (fun _ _ _ h => h) (Or.inl ⟨by rfl, ?yb_4⟩) (by assumption) ?qb_4
                                          case yb_4 => (intro w hSw; (try dsimp only at hSw); go_simp)
                                          case qb_4 =>
                                            (try simp only [Act.put]); (try simp only [List.setIfInBounds_toArray])
                                            refine wpAnyH_take (i := 4) (oi := ⟨some 64, _, _, _, _, _⟩) (v := (.pointer (some ⟨gu, 0, none⟩))) rfl (by kernel_rfl) (by kernel_rfl) (by kernel_rfl) (fun _ _ _ h => h) (Or.inl ⟨by rfl, ?yb_5⟩) (by assumption) ?qb_5
                                            case yb_5 => (intro w hSw; (try dsimp only at hSw); go_simp)
                                            case qb_5 =>
                                              (try simp only [Act.put]); (try simp only [List.setIfInBounds_toArray])
                                              refine wpAnyH_take (i := 5) (oi := ⟨some 65, _, _, _, _, _⟩) (v := (.pointer (some ⟨gu, 0, none⟩))) rfl (by kernel_rfl) (by kernel_rfl) (by kernel_rfl) (fun _ _ _ h => h) (Or.inl ⟨by rfl, ?yb_6⟩) (by assumption) ?qb_6
                                              case yb_6 => (intro w hSw; (try dsimp only at hSw); go_simp)
                                              case qb_6 =>
                                                (try simp only [Act.put]); (try simp only [List.setIfInBounds_toArray])
                                                refine wpAnyH_take (i := 6) (oi := ⟨some 66, _, _, _, _, _⟩) (v := (.pointer (some ⟨gu, 1, none⟩))) rfl (by kernel_rfl) (by kernel_rfl) (by kernel_rfl) (fun _ _ _ h => h) (Or.inl ⟨by rfl, ?yb_7⟩) (by assumption) ?qb_7
                                                case yb_7 => (intro w hSw; (try dsimp only at hSw); go_simp)
                                                case qb_7 =>
                                                  (try simp only [Act.put]); (try simp only [List.setIfInBounds_toArray])
                                                  refine wpAnyH_take (i := 7) (oi := ⟨some 67, _, _, _, _, _⟩) (v := (.slice (some ⟨g, 0, none⟩) n cc)) rfl (by kernel_rfl) (by kernel_rfl) (by kernel_rfl) (fun _ _ _ h => h) (Or.inl ⟨by rfl, ?yb_8⟩) (by assumption) ?qb_8
                                                  case yb_8 => (intro w hSw; (try dsimp only at hSw); go_simp)
                                                  case qb_8 =>
                                                    (try simp only [Act.put]); (try simp only [List.setIfInBounds_toArray])
                                                    refine wpAnyH_take (i := 8) (oi := ⟨some 68, _, _, _, _, _⟩) (v := (.int .i64 (n : Int))) rfl (by kernel_rfl) (by kernel_rfl) (by kernel_rfl) (fun _ _ _ h => h) (Or.inl ⟨by rfl, ?yb_9⟩) (by assumption) ?qb_9
                                                    case yb_9 => (intro w hSw; (try dsimp only at hSw); go_simp)
                                                    case qb_9 =>
                                                      (try simp only [Act.put]); (try simp only [List.setIfInBounds_toArray])
                                                      refine wpAnyH_take (i := 9) (oi := ⟨some 69, _, _, _, _, _⟩) (v := (.int .i64 ((n - 1 : Nat) : Int))) rfl (by kernel_rfl) (by kernel_rfl) (by kernel_rfl) (fun _ _ _ h => h) (Or.inl ⟨by rfl, ?yb_10⟩) (by assumption) ?qb_10
                                                      case yb_10 => (intro w hSw; (try dsimp only at hSw); go_simp)
                                                      case qb_10 =>
                                                        (try simp only [Act.put]); (try simp only [List.setIfInBounds_toArray])
                                                        refine wpAnyH_take (i := 10) (oi := ⟨some 70, _, _, _, _, _⟩) (v := (.agg #[.int .i64 nd.id, .string nd.con, .int .i64 nd.par, .string nd.role, .slice Pa Pn Pc, .slice Ka Kn Kc, .slice Az (Rn + 1) cz])) rfl (by kernel_rfl) (by kernel_rfl) (by kernel_rfl) (fun _ _ _ h => h) (Or.inl ⟨by rfl, ?yb_11⟩) (by assumption) ?qb_11
                                                        case yb_11 => (intro w hSw; (try dsimp only at hSw); go_simp)
                                                        case qb_11 =>
                                                          (try simp only [Act.put]); (try simp only [List.setIfInBounds_toArray])
                                                          refine wpAnyH_take (i := 11) (oi := ⟨some 71, _, _, _, _, _⟩) (v := (.pointer (some ⟨g, (n - 1) * 7, none⟩))) rfl (by kernel_rfl) (by kernel_rfl) (by kernel_rfl) (fun _ _ _ h => h) (Or.inl ⟨by rfl, ?yb_12⟩) (by assumption) ?qb_12
                                                          case yb_12 => (intro w hSw; (try dsimp only at hSw); go_simp)
                                                          case qb_12 =>
                                                            (try simp only [Act.put]); (try simp only [List.setIfInBounds_toArray])
                                                            clear hHeld
                                                            refine wpAnyH_done (by kernel_rfl) ?_ _
                                                            show wpList _ _ _ _ _ _
                                                            refine wpList_store_mid rfl 55 _ _ rfl g ((n - 1) * 7) #[.int .i64 nd.id, .string nd.con, .int .i64 nd.par, .string nd.role, .slice Pa Pn Pc, .slice Ka Kn Kc, .slice Az (Rn + 1) cz] rfl rfl HBK.out.th infoNode7 (one7 nd _ _ _ _ _ _ _ _ _) ?_
                                                            go_wp2_with fail
                                                            go_ret
                                                            exact HEND.out
                                · have hpos : 0 < Rn := by omega
                                  obtain ⟨p, hp1, hp2⟩ := last_ndR HPN.out.1.symm hpos
                                  obtain ⟨gp, hgp, hgp2⟩ := own_addrB (HPR.out W1 HW1.out.np) hpos
                                  subst hgp
                                  have hP0 : (0 : Int) < (Rn : Int) := by omega
                                  have hwr : IntKind.i64.wrap ((Rn : Int) - 1) = ((Rn - 1 : Nat) : Int) := by rw [IntWalk.i64_in _ (by omega)]; omega
                                  have hix : Rn - 1 < Rn := by omega
                                  have xp : W1.cell? ⟨gp, (Rn - 1) * 2, none⟩ = some (.string p.1) := by
                                    rw [World.ownsRow.cellAt (HPR.out W1 HW1.out.np) ((Rn - 1) * 2) (by omega)]
                                    exact (refCells_get hp1).1
                                  have hpm : p.1.size ≤ maxLen := hszs p (List.mem_of_getElem? hp1)
                                  have HP2 := Lib.hid hp2
                                  clear hP hp1 hp2 hgp2 hszs
                                  cases hbl : (!Op.bytesLess p.1.toList a.toList) with
                                  | true =>
                                    have HN := Lib.hid (HNO.out (refersV_no2 fun hc => by
                                      have h4 := (lessN_iff p.1 a).2 (hc p (by rw [HP2.out]; rfl))
                                      rw [h4] at hbl; cases hbl))
                                    clear hnv HNO
                                    go_wp2_with (go_at_call 50; refine HNU.out.mono ?_; rintro e w4 ⟨rfl, rfl⟩; (try simp only [Option.getD_some, Option.getD_none, Option.isSome_some, Option.isSome_none]))
                                    go_ret
                                    exact HN.out
                                  | false =>
                                    have HLT : Hid (∀ q ∈ nd.refs.getLast?, q.1.data.toList < a.data.toList) := Lib.hid fun q hq => by
                                      rw [HP2.out] at hq
                                      obtain rfl : p = q := Option.some.inj hq
                                      exact (lessN_iff p.1 a).1 hbl
                                    have HFY : Hid (refersV st nd a.data.toList s.data.toList = some (lastV st { nd with refs := nd.refs ++ [(a, y)] })) := Lib.hid (refersV_some hnv HLT.out)
                                    have HFIN2 : Hid (∀ (Az : Option Addr) (cz : Nat) (W : World), UEnd B0 B gu c st.next (.slice (some ⟨g, 0, none⟩) n cc) vd (l.set (n - 1) ({ nd with refs := nd.refs ++ [(a, y)] }, ⟨⟨Pa, Pn, Pc⟩, ⟨Ka, Kn, Kc⟩, ⟨Az, Rn + 1, cz⟩⟩)) (deepI st.deep) w W → LineU B0 B gu c (k + 1) (refersV st nd a.data.toList s.data.toList) w (.returned (.bool true)) W) := Lib.hid fun Az cz W hE => by rw [HFY.out]; exact HFIN.out y Az cz W hE
                                    clear hnv HNO HFY HFIN
                                    go_upto_region 6 with (go_at_call 50; refine HNU.out.mono ?_; rintro e w4 ⟨rfl, rfl⟩; (try simp only [Option.getD_some, Option.getD_none, Option.isSome_some, Option.isSome_none]))
                                    have HMD := Lib.hid (HW1.out.after (W' := (W1.alloc (.cells #[.string a, .int .i64 y] 62))) ((Below.refl _ _).alloc (Nat.le_refl _) _))
                                    have HRq : Hid (Row (W1.alloc (.cells #[.string a, .int .i64 y] 62)) W1.heap.size (W1.heap.size + 1) 2 (some ⟨W1.heap.size, 0, none⟩) 1 1 [.string a, .int .i64 y]) := Lib.hid (row_blk (Blk.new _ _ _) rfl (Nat.le_refl _) (by unfold maxLen; omega))
                                    have HSZ : Hid (a.size ≤ maxLen) := Lib.hid (by unfold maxLen; omega)
                                    go_upto_region 7 with (at_builtin; with_reducible show wpList _ _ _ (⟨some 58, _, _, _, _, _⟩ :: _) _ _; go_must (refine wpList_appS (o := ⟨some 58, _, _, _, _, _⟩) _ rfl (.tmp 53) (.tmp 57) _ rfl B 62 i1 _ 2 24 Tryz.underlying53 hi1 hz1 hs1 hb1 rfl (by omega) (.slice (some ⟨gp, 0, none⟩) Rn Rc) Rn (refCells nd.refs) (by go_simp) (HPR.out _ HMD.out.np) W1.heap.size (W1.heap.size + 1) (some ⟨W1.heap.size, 0, none⟩) 1 1 [.string a, .int .i64 y] (by go_simp) HRq.out (by simp [Value.oneCell']) (by unfold maxLen; omega) (by omega) HMD.out.np.hB ?_); go_must (intro Az cz w2 hownN hgrN hnewN; have HBK := Lib.hid (HMD.out.backRef (y := (a, y)) HLX.out hn0 HI.out HSZ.out hownN hgrN hnewN); have y6 := HBK.out.x; have f6 := HBK.out.f; clear hownN hgrN hnewN))
                                    have HEND := Lib.hid (HFIN2.out _ _ _ HBK.out.en)
                                    refine wp_region_held_tail 12 (fun Y => Below (w2.setCell ⟨gx, 6, none⟩ (.slice Az (Rn + 1) cz)).heap.size (w2.setCell ⟨gx, 6, none⟩ (.slice Az (Rn + 1) cz)) Y ∧ Y.cell? ⟨gu, 1, none⟩ = some (.slice (some ⟨g, 0, none⟩) n cc) ∧ Y.cell? ⟨gx, 0, none⟩ = some (.int .i64 nd.id) ∧ Y.cell? ⟨gx, 1, none⟩ = some (.string nd.con) ∧ Y.cell? ⟨gx, 2, none⟩ = some (.int .i64 nd.par) ∧ Y.cell? ⟨gx, 3, none⟩ = some (.string nd.role) ∧ Y.cell? ⟨gx, 4, none⟩ = some (.slice Pa Pn Pc) ∧ Y.cell? ⟨gx, 5, none⟩ = some (.slice Ka Kn Kc) ∧ Y.cell? ⟨gx, 6, none⟩ = some (.slice Az (Rn + 1) cz)) (by kernel_rfl) (by kernel_rfl) ?hS7 (fun hHeld => ?q7)
                                    case hS7 => exact ⟨drewS_below _, HBK.out.z _ (drewS_below _)⟩
                                    case q7 =>
                                      simp only [List.take_succ_cons, List.take_zero, List.drop_succ_cons, List.drop_zero]
                                      refine wpAnyH_take (i := 0) (oi := ⟨some 60, _, _, _, _, _⟩) (v := (.pointer (some ⟨gu, 0, none⟩))) rfl (by kernel_rfl) (by kernel_rfl) (by kernel_rfl) (fun _ _ _ h => h) (Or.inl ⟨by rfl, ?yb_1⟩) (by assumption) ?qb_1
                                      case yb_1 => (intro w hSw; (try dsimp only at hSw); go_simp)
                                      case qb_1 =>
                                        (try simp only [Act.put]); (try simp only [List.setIfInBounds_toArray])
                                        refine wpAnyH_take (i := 1) (oi := ⟨some 61, _, _, _, _, _⟩) (v := (.pointer (some ⟨gu, 0, none⟩))) rfl (by kernel_rfl) (by kernel_rfl) (by kernel_rfl) (fun _ _ _ h => h) (Or.inl ⟨by rfl, ?yb_2⟩) (by assumption) ?qb_2
                                        case yb_2 => (intro w hSw; (try dsimp only at hSw); go_simp)
                                        case qb_2 =>
                                          (try simp only [Act.put]); (try simp only [List.setIfInBounds_toArray])
                                          refine wpAnyH_take (i := 2) (oi := ⟨some 62, _, _, _, _, _⟩) (v := (.pointer (some ⟨gu, 1, none⟩))) rfl (by kernel_rfl) (by kernel_rfl) (by kernel_rfl) (fun _ _ _ h => h) (Or.inl ⟨by rfl, ?yb_3⟩) (by assumption) ?qb_3
                                          case yb_3 => (intro w hSw; (try dsimp only at hSw); go_simp)
                                          case qb_3 =>
                                            (try simp only [Act.put]); (try simp only [List.setIfInBounds_toArray])
                                            refine wpAnyH_take (i := 3) (oi := ⟨some 63, _, _, _, _, _⟩) (v := (.slice (some ⟨g, 0, none⟩) n cc)) rfl (by kernel_rfl) (by kernel_rfl) (by kernel_rfl) (fun _ _ _ h => h) (Or.inl ⟨by rfl, ?yb_4⟩) (by assumption) ?qb_4
                                            case yb_4 => (intro w hSw; (try dsimp only at hSw); go_simp)
                                            case qb_4 =>
                                              (try simp only [Act.put]); (try simp only [List.setIfInBounds_toArray])
                                              refine wpAnyH_take (i := 4) (oi := ⟨some 64, _, _, _, _, _⟩) (v := (.pointer (some ⟨gu, 0, none⟩))) rfl (by kernel_rfl) (by kernel_rfl) (by kernel_rfl) (fun _ _ _ h => h) (Or.inl ⟨by rfl, ?yb_5⟩) (by assumption) ?qb_5
                                              case yb_5 => (intro w hSw; (try dsimp only at hSw); go_simp)
                                              case qb_5 =>
                                                (try simp only [Act.put]); (try simp only [List.setIfInBounds_toArray])
                                                refine wpAnyH_take (i := 5) (oi := ⟨some 65, _, _, _, _, _⟩) (v := (.pointer (some ⟨gu, 0, none⟩))) rfl (by kernel_rfl) (by kernel_rfl) (by kernel_rfl) (fun _ _ _ h => h) (Or.inl ⟨by rfl, ?yb_6⟩) (by assumption) ?qb_6
                                                case yb_6 => (intro w hSw; (try dsimp only at hSw); go_simp)
                                                case qb_6 =>
                                                  (try simp only [Act.put]); (try simp only [List.setIfInBounds_toArray])
                                                  refine wpAnyH_take (i := 6) (oi := ⟨some 66, _, _, _, _, _⟩) (v := (.pointer (some ⟨gu, 1, none⟩))) rfl (by kernel_rfl) (by kernel_rfl) (by kernel_rfl) (fun _ _ _ h => h) (Or.inl ⟨by rfl, ?yb_7⟩) (by assumption) ?qb_7
                                                  case yb_7 => (intro w hSw; (try dsimp only at hSw); go_simp)
                                                  case qb_7 =>
                                                    (try simp only [Act.put]); (try simp only [List.setIfInBounds_toArray])
                                                    refine wpAnyH_take (i := 7) (oi := ⟨some 67, _, _, _, _, _⟩) (v := (.slice (some ⟨g, 0, none⟩) n cc)) rfl (by kernel_rfl) (by kernel_rfl) (by kernel_rfl) (fun _ _ _ h => h) (Or.inl ⟨by rfl, ?yb_8⟩) (by assumption) ?qb_8
                                                    case yb_8 => (intro w hSw; (try dsimp only at hSw); go_simp)
                                                    case qb_8 =>
                                                      (try simp only [Act.put]); (try simp only [List.setIfInBounds_toArray])
                                                      refine wpAnyH_take (i := 8) (oi := ⟨some 68, _, _, _, _, _⟩) (v := (.int .i64 (n : Int))) rfl (by kernel_rfl) (by kernel_rfl) (by kernel_rfl) (fun _ _ _ h => h) (Or.inl ⟨by rfl, ?yb_9⟩) (by assumption) ?qb_9
                                                      case yb_9 => (intro w hSw; (try dsimp only at hSw); go_simp)
                                                      case qb_9 =>
                                                        (try simp only [Act.put]); (try simp only [List.setIfInBounds_toArray])
                                                        refine wpAnyH_take (i := 9) (oi := ⟨some 69, _, _, _, _, _⟩) (v := (.int .i64 ((n - 1 : Nat) : Int))) rfl (by kernel_rfl) (by kernel_rfl) (by kernel_rfl) (fun _ _ _ h => h) (Or.inl ⟨by rfl, ?yb_10⟩) (by assumption) ?qb_10
                                                        case yb_10 => (intro w hSw; (try dsimp only at hSw); go_simp)
                                                        case qb_10 =>
                                                          (try simp only [Act.put]); (try simp only [List.setIfInBounds_toArray])
                                                          refine wpAnyH_take (i := 10) (oi := ⟨some 70, _, _, _, _, _⟩) (v := (.agg #[.int .i64 nd.id, .string nd.con, .int .i64 nd.par, .string nd.role, .slice Pa Pn Pc, .slice Ka Kn Kc, .slice Az (Rn + 1) cz])) rfl (by kernel_rfl) (by kernel_rfl) (by kernel_rfl) (fun _ _ _ h => h) (Or.inl ⟨by rfl, ?yb_11⟩) (by assumption) ?qb_11
                                                          case yb_11 => (intro w hSw; (try dsimp only at hSw); go_simp)
                                                          case qb_11 =>
                                                            (try simp only [Act.put]); (try simp only [List.setIfInBounds_toArray])
                                                            refine wpAnyH_take (i := 11) (oi := ⟨some 71, _, _, _, _, _⟩) (v := (.pointer (some ⟨g, (n - 1) * 7, none⟩))) rfl (by kernel_rfl) (by kernel_rfl) (by kernel_rfl) (fun _ _ _ h => h) (Or.inl ⟨by rfl, ?yb_12⟩) (by assumption) ?qb_12
                                                            case yb_12 => (intro w hSw; (try dsimp only at hSw); go_simp)
                                                            case qb_12 =>
                                                              (try simp only [Act.put]); (try simp only [List.setIfInBounds_toArray])
                                                              clear hHeld
                                                              refine wpAnyH_done (by kernel_rfl) ?_ _
                                                              show wpList _ _ _ _ _ _
                                                              refine wpList_store_mid rfl 55 _ _ rfl g ((n - 1) * 7) #[.int .i64 nd.id, .string nd.con, .int .i64 nd.par, .string nd.role, .slice Pa Pn Pc, .slice Ka Kn Kc, .slice Az (Rn + 1) cz] rfl rfl HBK.out.th infoNode7 (one7 nd _ _ _ _ _ _ _ _ _) ?_
                                                              go_wp2_with fail
                                                              go_ret
                                                              exact HEND.out
end Go.Proofs.YtjjlofaejpnnnaaGreatDoor

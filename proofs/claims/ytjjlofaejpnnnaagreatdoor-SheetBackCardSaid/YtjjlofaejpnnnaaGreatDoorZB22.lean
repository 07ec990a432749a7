/-
  WALKS over package sheet: stand.
-/
import Derived.Test.YtjjlofaejpnnnaaGreatDoorZB21
import Derived.Deep.RegionHeld3
namespace Go.Proofs.YtjjlofaejpnnnaaGreatDoor
open Go Go.RowKit Go.Sort
set_option linter.unusedVariables false
theorem step_mkS {P : Program} (w : World) {ops : Array Oper} {o : Oper} {a : Act} {K : Act → World → Prop} {Q : Exit → Act → World → Prop} {E : Prop} (hgd : o.guard = none) (T : TypeId) (cs : Array Value)
    (hrun : (execOp a.eval o).run P w = .ok (.value (.slice (some ⟨w.heap.size, 0, none⟩) 1 1)) (w.alloc (.cells cs T)))
    (hK : ∀ g w', Blk w' g T cs → Below w.heap.size w w' → w.heap.size ≤ g → K (a.put o.dst (.slice (some ⟨g, 0, none⟩) 1 1)) w') : if Region.wanted o (yielded ops a.tmps) = true then Oper.wp P o a w K Q else E := by
  have hw : Region.wanted o (yielded ops a.tmps) = true := by simp [Region.wanted, hgd]
  rw [if_pos hw]
  unfold Oper.wp
  rw [hrun]
  exact hK _ _ (Blk.new w T cs) ((Below.refl _ _).alloc (Nat.le_refl _) _) (Nat.le_refl _)
theorem step_appS {P : Program} (w : World) {ops : Array Oper} {o : Oper} {a : Act} {K : Act → World → Prop} {Q : Exit → Act → World → Prop} {E : Prop} (hgd : o.guard = none) (s x : Operand) (t : TypeId)
    (ho : o.op = .call { callee := .builtin .append, args := #[s, x], argTypes := #[t, t] })
    (base : Nat) (e : TypeId) (i : TypeInfo) (z : Value) (size bytes : Nat) (ht : P.underlying t = some (.slice e)) (hi : P.info? e = some i) (hz : i.zero = some z)
    (hsize : i.size = size) (hby : i.bytes = bytes) (hzs : z.cells.size = size) (hsz : 0 < size)
    (v : Value) (n : Nat) (xs : List Value) (hs : a.eval s = v) (hown : w.ownsRow base e size v n xs)
    (lo hi' : Nat) (A : Option Addr) (m c : Nat) (news : List Value) (hx : a.eval x = .slice A m c) (hr : Row w lo hi' size A m c news) (h1 : ∀ u ∈ news, u.oneCell' = true)
    (h63 : n + m ≤ maxLen) (hbytes : (n + m) * bytes ≤ 140737488355328) (hbase : base ≤ w.heap.size)
    (h : ∀ A' c' w', w'.ownsRow base e size (.slice A' (n + m) c') (n + m) (xs ++ news) → w.grownBy w' v.ownBlock → ((Value.slice A' (n + m) c').ownBlock = v.ownBlock ∨ (Value.slice A' (n + m) c').ownBlock = some w.heap.size) → K (a.put o.dst (.slice A' (n + m) c')) w') :
    if Region.wanted o (yielded ops a.tmps) = true then Oper.wp P o a w K Q else E :=
  step_app w hgd s x t ho base e i z size bytes ht hi hz hsize hby hzs hsz v n xs hs hown lo hi' A m c news hx hr h1 h63 hbytes hbase fun v' w' h2 h3 h4 => by
    rcases h2.2 with ⟨rfl, hn⟩ | ⟨g, cap, cur, rfl, _⟩
    · have := h none 0 w' (by rw [hn] at h2 ⊢; exact h2) h3 (by rw [hn]; exact h4)
      rw [hn] at this
      exact this
    · exact h _ _ w' h2 h3 h4
theorem wpList_mapS {w w' : World} {ops : Array Oper} {rest : List Oper} {o : Oper} {a : Act} {Q : Exit → Act → World → Prop} (hgd : o.guard = none) (m x v : Operand) (t : TypeId) (ho : o.op = Op.mapUpdate t m x v) {vm vx vv : Value} (hm : a.eval m = vm) (hx : a.eval x = vx) (hv : a.eval v = vv)
    (hr : (Instr.mapUpdate t vm vx vv).run Tryz.prog w = .ok () w') (h : wpList Tryz.prog ops Q rest (a.put o.dst undef) w') : wpList Tryz.prog ops Q (o :: rest) a w :=
  wpList_plain hgd fun K' hK' => by
    unfold Oper.wp
    simp [execOp, ho, hm, hx, hv, hr, Result.andThen]
    exact hK' _ _ h
/-- a number that is an int -/
structure In64S (n : Int) : Prop where
  out : -9223372036854775808 ≤ n ∧ n ≤ 9223372036854775807
def StandQ (B0 B gr gm k : Nat) (st' : RS) (w : World) (e : Ending) (w' : World) : Prop := e = .returned (.tuple #[]) ∧ Below B0 w w' ∧ ∃ v vw l, RIn B gr gm (k + 1) v vw l st' w'
theorem nd_cells {w : World} {g : Nat} {nd : Nd} (h : Blk w g 55 (ndBox nd)) : w.cell? ⟨g, 0, none⟩ = some (.int .i64 nd.id) ∧ w.cell? ⟨g, 1, none⟩ = some (.string nd.con) ∧ w.cell? ⟨g, 2, none⟩ = some (.int .i64 nd.par) ∧ w.cell? ⟨g, 3, none⟩ = some (.string nd.role) ∧ w.cell? ⟨g, 4, none⟩ = some (.slice none 0 0) ∧ w.cell? ⟨g, 5, none⟩ = some (.slice none 0 0) ∧ w.cell? ⟨g, 6, none⟩ = some (.slice none 0 0) :=
  ⟨(h.cell 0).trans rfl, (h.cell 1).trans rfl, (h.cell 2).trans rfl, (h.cell 3).trans rfl, (h.cell 4).trans rfl, (h.cell 5).trans rfl, (h.cell 6).trans rfl⟩
theorem Mid.ndc {B0 B gr gm gn k : Nat} {next root : Int} {v vw : Value} {l : List (Nd × Leaf)} {ws ids : List Int} {nn : Nd} {w W : World} (h : Mid B0 B gr gm gn k next root v vw l ws ids nn w W) : W.cell? ⟨gn, 0, none⟩ = some (.int .i64 nn.id) ∧ W.cell? ⟨gn, 1, none⟩ = some (.string nn.con) ∧ W.cell? ⟨gn, 2, none⟩ = some (.int .i64 nn.par) ∧ W.cell? ⟨gn, 3, none⟩ = some (.string nn.role) ∧ W.cell? ⟨gn, 4, none⟩ = some (.slice none 0 0) ∧ W.cell? ⟨gn, 5, none⟩ = some (.slice none 0 0) ∧ W.cell? ⟨gn, 6, none⟩ = some (.slice none 0 0) := nd_cells h.nb
theorem Mid.rdc {B0 B gr gm gn k : Nat} {next root : Int} {v vw : Value} {l : List (Nd × Leaf)} {ws ids : List Int} {nn : Nd} {w W : World} (h : Mid B0 B gr gm gn k next root v vw l ws ids nn w W) : W.cell? ⟨gr, 0, none⟩ = some (.int .i64 next) ∧ W.cell? ⟨gr, 1, none⟩ = some v ∧ W.cell? ⟨gr, 2, none⟩ = some (.map (some gm)) ∧ W.cell? ⟨gr, 3, none⟩ = some (.int .i64 root) ∧ W.cell? ⟨gr, 4, none⟩ = some vw := rd_cells h.bx
theorem RIn.mid {B gr gm k : Nat} {v vw : Value} {l : List (Nd × Leaf)} {st : RS} {w : World} (h : RIn B gr gm k v vw l st w) {B0 : Nat} (h0 : B0 ≤ gr) (h1 : B0 ≤ gm) (n : Nd) : Mid B0 B gr gm w.heap.size k st.next (rootV st) v vw l (wayI st.deep) (idsOf st) n w (w.alloc (.cells (ndBox n) 55)) := by
  have hb : Below w.heap.size w (w.alloc (.cells (ndBox n) 55)) := (Below.refl _ _).alloc (Nat.le_refl _) _
  refine ⟨h.box.after hb, h.np.after hb, h.set.after hb, Blk.new _ _ _, hb.mono (Nat.le_trans h0 (Nat.le_of_lt h.box.lt)), h0, h1, h.lr, h.lm, Nat.le_trans h0 (Nat.le_of_lt h.box.lt), ?_⟩
  rcases fresh_ne h.np.own with hn | hn
  · rw [hn]; simp
  · exact hn
theorem nodes_cells {X : World} {B n c g i : Nat} {l : List (Nd × Leaf)} {nd : Nd} {L : Leaf} (hl : l.length = n) (h : OwnN X B (.slice (some ⟨g, 0, none⟩) n c) l) (hi : l[i]? = some (nd, L)) : NodeAt X g (i * 7) nd L := by
  subst hl
  have ho : X.ownsRow B 55 7 (.slice (some ⟨g, 0, none⟩) l.length c) l.length (allCells l) := h
  have hlt : i < l.length := (List.getElem?_eq_some_iff.1 hi).1
  have key : ∀ j u, j < 7 → (ndCells (nd, L))[j]? = some u → X.cell? ⟨g, i * 7 + j, none⟩ = some u := by
    intro j u hj hu
    rw [World.ownsRow.cellAt ho (i * 7 + j) (by omega)]
    unfold allCells
    rw [flatN_get ndCells_len l i _ hi j hj]
    exact hu
  exact ⟨key 0 _ (by omega) rfl, key 1 _ (by omega) rfl, key 2 _ (by omega) rfl, key 3 _ (by omega) rfl, key 4 _ (by omega) rfl, key 5 _ (by omega) rfl, key 6 _ (by omega) rfl⟩
theorem nodes_frozen {X : World} {B n c g : Nat} {l : List (Nd × Leaf)} (hl : l.length = n) (h : OwnN X B (.slice (some ⟨g, 0, none⟩) n c) l) (j : Nat) : X.frozen? ⟨g, j, none⟩ = false := by
  subst hl
  have ho : X.ownsRow B 55 7 (.slice (some ⟨g, 0, none⟩) l.length c) l.length (allCells l) := h
  exact World.ownsRow.frozenAt ho j
theorem allCells_snocS (l : List (Nd × Leaf)) (p : Nd × Leaf) : allCells (l ++ [p]) = allCells l ++ ndCells p := by simp [allCells, List.flatMap_append]
set_option maxRecDepth 40000 in
set_option maxHeartbeats 6400000 in
theorem stand0_nil (w : World) (B0 B gr gm k n1 c : Nat) (A : Option Addr) (l : List (Nd × Leaf)) (st : RS) (h : RIn B gr gm k (.slice A n1 c) (.slice none 0 0) l st w) (h0 : st.next ≠ 0) (hB0 : B0 ≤ gr) (hB1 : B0 ≤ gm) (n : Nd) (hn : n.par = 0 ∧ n.props = [] ∧ n.kids = [] ∧ n.refs = []) (hz : SzN n) (hid : 1 ≤ n.id ∧ n.id < st.next) (hno : ¬ noStand st n.id 0) (hk : k + 1 ≤ 4194304) :
    Calls Tryz.prog 86 #[.pointer (some ⟨gr, 0, none⟩), .int .i64 0, .agg #[.int .i64 n.id, .string n.con, .int .i64 n.par, .string n.role, .slice none 0 0, .slice none 0 0, .slice none 0 0]] w (StandQ B0 B gr gm k (stoodV st n 0) w) := by
  have H := Lib.hid h
  have hok := h.ok h0
  have hn1 := hok.n1
  have hn2 := hok.n2
  have hBB : B0 ≤ B := by have := h.lr; omega
  have HN4 : Hid (0 ≤ st.deep.getLastD 0 ∧ st.nds.length < 4096) := Lib.hid (by unfold noStand at hno; omega)
  have HLX : Hid (l.length = n1) := Lib.hid (by obtain ⟨A2, c2, hv, _⟩ := h.v_form; injection hv with _ hn _; rw [h.len]; exact hn.symm)
  have hn4 : n1 < 4096 := by have h1 := HN4.out.2; have h2 := HLX.out; have h3 := h.len; omega
  have HK1 : In64S n.id := ⟨by omega⟩
  have HSZ := Lib.hid hz
  have HNN : Hid (n.props = [] ∧ n.kids = [] ∧ n.refs = []) := Lib.hid hn.2
  have HID := Lib.hid hid
  have HNO := Lib.hid hno
  have hkk : k ≤ 4194304 := h.k1
  obtain ⟨i1, hi1, hz1, hs1, hb1⟩ := info_parts intInfo
  obtain ⟨i2, hi2, hz2, hs2, hb2⟩ := info_parts nodeInfo
  have HWO : Hid (∀ (X : World) (u : Value), X.ownsRow B 3 1 u (0 + 1) ([] ++ [.int .i64 (n1 : Int)]) → X.ownsRow B 3 1 u ([] ++ [(n1 : Int)]).length (intCells ([] ++ [(n1 : Int)]))) := Lib.hid fun X u hu => hu
  have HFIN : Hid (∀ (vz vq : Value) (W : World), MidE B0 B gr gm (k + 1) st.next n.id vz vq (l ++ [(n, ⟨⟨none, 0, 0⟩, ⟨none, 0, 0⟩, ⟨none, 0, 0⟩⟩)]) ([] ++ [(n1 : Int)]) (idsOf st ++ [n.id]) w W → StandQ B0 B gr gm k (stoodV st n 0) w (.returned (.tuple #[])) W) := Lib.hid fun vz vq W hE => by
    refine ⟨rfl, hE.bel, vz, vq, l ++ [(n, ⟨⟨none, 0, 0⟩, ⟨none, 0, 0⟩, ⟨none, 0, 0⟩⟩)], ?_⟩
    have hst : Stood st n 0 (stoodV st n 0) := standsV_stood (st := st) (by rw [standsV_is hok.dl hok.dk, if_neg hno])
    have hs : stoodV st n 0 = ⟨st.next, st.nds ++ [n], st.deep ++ [1]⟩ := by unfold stoodV; rw [if_pos rfl]
    have hR := hok.stood hst hid.1 hid.2
    rw [hs] at hR ⊢
    have hr : rootV ⟨st.next, st.nds ++ [n], st.deep ++ [1]⟩ = n.id := by
      unfold rootV
      rw [List.map_append]
      exact rootI_new st.deep (st.nds.map (·.id)) n.id (by rw [List.length_map]; exact hok.dl)
    have hw : wayI (st.deep ++ [1]) = ([] ++ [(n1 : Int)]) := by
      have := wayI_snoc (deep := st.deep) (d := 0) (Nat.zero_le _)
      rw [show 0 + 1 = 1 from rfl] at this
      rw [this, hok.dl, ← H.out.len, HLX.out]
      rw [List.take_zero]
    refine ⟨?_, ?_, ?_, ?_, fun _ => hR, fun e => absurd e h0, ?_, H.out.lr, H.out.lm, hk⟩
    · have := hE.bx
      rw [hr]
      exact this
    · rw [hw]; exact hE.np
    · have := hE.set
      rw [List.map_append]
      exact this
    · rw [List.map_append, H.out.nds]; rfl
    · intro nd hnd
      rcases List.mem_append.1 hnd with hnd | hnd
      · have := H.out.ln nd hnd; omega
      · obtain rfl : nd = n := by simpa using hnd
        rw [hn.2.1, hn.2.2.1, hn.2.2.2]
        simp
  have HM0 : Hid (Mid B0 B gr gm w.heap.size k st.next (rootV st) (.slice A n1 c) (.slice none 0 0) l (wayI st.deep) (idsOf st) n w (w.alloc (.cells #[.int .i64 n.id, .string n.con, .int .i64 n.par, .string n.role, .slice none 0 0, .slice none 0 0, .slice none 0 0] 55))) := Lib.hid (h.mid hB0 hB1 n)
  have HON : Hid (∀ (X : World) {vw : Value} {ws : List Int}, NP B (.slice A n1 c) vw l ws X → X.ownsRow B 55 7 (.slice A n1 c) n1 (allCells l)) := Lib.hid fun X vw ws hX => by have := hX.own; unfold OwnN at this; rw [HLX.out] at this; exact this
  have HOM : Hid (∀ (X : World) (u : Value), X.ownsRow B 55 7 u (n1 + 1) (allCells l ++ [.int .i64 n.id, .string n.con, .int .i64 n.par, .string n.role, .slice none 0 0, .slice none 0 0, .slice none 0 0]) → OwnN X B u (l ++ [(n, ⟨⟨none, 0, 0⟩, ⟨none, 0, 0⟩, ⟨none, 0, 0⟩⟩)])) := Lib.hid fun X u hu => by unfold OwnN; rw [allCells_snocS, List.length_append, HLX.out]; exact hu
  clear h hok hn hz hid hno
  go_enter Tryz.func86, Tryz.ntmps86
  go_upto_region 1 with (fail)
  generalize w.alloc (.cells #[.int .i64 n.id, .string n.con, .int .i64 n.par, .string n.role, .slice none 0 0, .slice none 0 0, .slice none 0 0] 55) = W0 at HM0 ⊢
  have x0 := HM0.out.ndc.1
  have x3 := HM0.out.rdc.2.2.2.1
  have f3 := HM0.out.bx.frozen 3
  go_upto_region 6 with (fail)
  have HM := Lib.hid (HM0.out.rootS n.id)
  generalize W0.setCell ⟨gr, 3, none⟩ (.int .i64 n.id) = W at HM ⊢
  clear x0 x3 f3 HM0
  have HMd := Lib.hid HM.out.drew
  obtain ⟨W6, hr6, hs6, hg6⟩ := HMd.out.set.put (n := n.id) HK1.out (by omega)
  have HR6 := Lib.hid hr6
  have HM6 := Lib.hid (HMd.out.put hs6 hg6)
  clear hr6 hs6 hg6
  refine wp_region_held_tail 7 (fun Y => Y.cell? ⟨gr, 2, none⟩ = some (.map (some gm)) ∧ Y.cell? ⟨w.heap.size, 0, none⟩ = some (.int .i64 n.id)) (by kernel_rfl) (by kernel_rfl) ?hS6 (fun hHeld => ?q6)
  case hS6 => exact ⟨HMd.out.rdc.2.2.1, HMd.out.ndc.1⟩
  case q6 =>
    simp only [List.take_succ_cons, List.take_zero, List.drop_succ_cons, List.drop_zero]
    refine wpAnyH_take (i := 0) (v := (.pointer (some ⟨gr, 0, none⟩))) rfl (by kernel_rfl) (by kernel_rfl) (by kernel_rfl) (fun _ _ _ h => h) (Or.inl ⟨by rfl, ?ys_1⟩) (by assumption) ?qs_1
    case ys_1 => (intro w hSw; (try dsimp only at hSw); go_simp)
    case qs_1 =>
      (try simp only [Act.put]); (try simp only [List.setIfInBounds_toArray])
      refine wpAnyH_take (i := 1) (v := (.pointer (some ⟨gr, 0, none⟩))) rfl (by kernel_rfl) (by kernel_rfl) (by kernel_rfl) (fun _ _ _ h => h) (Or.inl ⟨by rfl, ?ys_2⟩) (by assumption) ?qs_2
      case ys_2 => (intro w hSw; (try dsimp only at hSw); go_simp)
      case qs_2 =>
        (try simp only [Act.put]); (try simp only [List.setIfInBounds_toArray])
        refine wpAnyH_take (i := 2) (v := (.pointer (some ⟨gr, 2, none⟩))) rfl (by kernel_rfl) (by kernel_rfl) (by kernel_rfl) (fun _ _ _ h => h) (Or.inl ⟨by rfl, ?ys_3⟩) (by assumption) ?qs_3
        case ys_3 => (intro w hSw; (try dsimp only at hSw); go_simp)
        case qs_3 =>
          (try simp only [Act.put]); (try simp only [List.setIfInBounds_toArray])
          refine wpAnyH_take (i := 3) (v := (.map (some gm))) rfl (by kernel_rfl) (by kernel_rfl) (by kernel_rfl) (fun _ _ _ h => h) (Or.inl ⟨by rfl, ?ys_4⟩) (by assumption) ?qs_4
          case ys_4 => (intro w hSw; (try dsimp only at hSw); go_simp)
          case qs_4 =>
            (try simp only [Act.put]); (try simp only [List.setIfInBounds_toArray])
            refine wpAnyH_take (i := 4) (v := (.pointer (some ⟨w.heap.size, 0, none⟩))) rfl (by kernel_rfl) (by kernel_rfl) (by kernel_rfl) (fun _ _ _ h => h) (Or.inl ⟨by rfl, ?ys_5⟩) (by assumption) ?qs_5
            case ys_5 => (intro w hSw; (try dsimp only at hSw); go_simp)
            case qs_5 =>
              (try simp only [Act.put]); (try simp only [List.setIfInBounds_toArray])
              refine wpAnyH_take (i := 5) (v := (.int .i64 n.id)) rfl (by kernel_rfl) (by kernel_rfl) (by kernel_rfl) (fun _ _ _ h => h) (Or.inl ⟨by rfl, ?ys_6⟩) (by assumption) ?qs_6
              case ys_6 => (intro w hSw; (try dsimp only at hSw); go_simp)
              case qs_6 =>
                (try simp only [Act.put]); (try simp only [List.setIfInBounds_toArray])
                refine wpAnyH_take (i := 6) (v := (.agg #[])) rfl (by kernel_rfl) (by kernel_rfl) (by kernel_rfl) (fun _ _ _ h => h) (Or.inl ⟨by rfl, ?ys_7⟩) (by assumption) ?qs_7
                case ys_7 => (intro w hSw; (try dsimp only at hSw); go_simp)
                case qs_7 =>
                  (try simp only [Act.put]); (try simp only [List.setIfInBounds_toArray])
                  refine wpAnyH_done (by kernel_rfl) ?_ _
                  clear hHeld
                  show wpList _ _ _ _ _ _
                  refine wpList_mapS (o := ⟨none, _, _, _, _, _⟩) rfl (.tmp 46) (.tmp 48) (.tmp 49) _ rfl (by go_simp) (by go_simp) (by go_simp) HR6.out ?_
                  (try simp only [Act.put]); (try simp only [List.setIfInBounds_toArray])
                  go_upto_region 7 with (fail)
                  have HM7 := Lib.hid HM6.out.drew
                  refine wp_region_held_tail 14 (fun Y => Y.cell? ⟨gr, 4, none⟩ = some (.slice none 0 0) ∧ Y.cell? ⟨gr, 1, none⟩ = some (.slice A n1 c)) (by kernel_rfl) (by kernel_rfl) ?hS7 (fun hHeld => ?q7)
                  case hS7 => exact ⟨HM7.out.rdc.2.2.2.2, HM7.out.rdc.2.1⟩
                  case q7 =>
                    simp only [List.take_succ_cons, List.take_zero, List.drop_succ_cons, List.drop_zero]
                    refine wpAnyH_take (i := 0) (v := (.pointer (some ⟨gr, 0, none⟩))) rfl (by kernel_rfl) (by kernel_rfl) (by kernel_rfl) (fun _ _ _ h => h) (Or.inl ⟨by rfl, ?yt_1⟩) (by assumption) ?qt_1
                    case yt_1 => (intro w hSw; (try dsimp only at hSw); go_simp)
                    case qt_1 =>
                      (try simp only [Act.put]); (try simp only [List.setIfInBounds_toArray])
                      refine wpAnyH_take (i := 1) (v := (.pointer (some ⟨gr, 0, none⟩))) rfl (by kernel_rfl) (by kernel_rfl) (by kernel_rfl) (fun _ _ _ h => h) (Or.inl ⟨by rfl, ?yt_2⟩) (by assumption) ?qt_2
                      case yt_2 => (intro w hSw; (try dsimp only at hSw); go_simp)
                      case qt_2 =>
                        (try simp only [Act.put]); (try simp only [List.setIfInBounds_toArray])
                        refine wpAnyH_take (i := 2) (v := (.pointer (some ⟨gr, 0, none⟩))) rfl (by kernel_rfl) (by kernel_rfl) (by kernel_rfl) (fun _ _ _ h => h) (Or.inl ⟨by rfl, ?yt_3⟩) (by assumption) ?qt_3
                        case yt_3 => (intro w hSw; (try dsimp only at hSw); go_simp)
                        case qt_3 =>
                          (try simp only [Act.put]); (try simp only [List.setIfInBounds_toArray])
                          refine wpAnyH_take (i := 3) (v := (.pointer (some ⟨gr, 4, none⟩))) rfl (by kernel_rfl) (by kernel_rfl) (by kernel_rfl) (fun _ _ _ h => h) (Or.inl ⟨by rfl, ?yt_4⟩) (by assumption) ?qt_4
                          case yt_4 => (intro w hSw; (try dsimp only at hSw); go_simp)
                          case qt_4 =>
                            (try simp only [Act.put]); (try simp only [List.setIfInBounds_toArray])
                            refine wpAnyH_take (i := 4) (v := (.slice none 0 0)) rfl (by kernel_rfl) (by kernel_rfl) (by kernel_rfl) (fun _ _ _ h => h) (Or.inl ⟨by rfl, ?yt_5⟩) (by assumption) ?qt_5
                            case yt_5 => (intro w hSw; (try dsimp only at hSw); go_simp)
                            case qt_5 =>
                              (try simp only [Act.put]); (try simp only [List.setIfInBounds_toArray])
                              refine wpAnyH_take (i := 5) (v := (.int .i64 0)) rfl (by kernel_rfl) (by kernel_rfl) (by kernel_rfl) (fun _ _ _ h => h) (Or.inl ⟨by rfl, ?yt_6⟩) (by assumption) ?qt_6
                              case yt_6 => (intro w hSw; (try dsimp only at hSw); go_simp)
                              case qt_6 =>
                                (try simp only [Act.put]); (try simp only [List.setIfInBounds_toArray])
                                refine wpAnyH_take (i := 6) (v := (.slice none 0 0)) rfl (by kernel_rfl) (by kernel_rfl) (by kernel_rfl) (fun _ _ _ h => h) (Or.inl ⟨by rfl, ?yt_7⟩) (by assumption) ?qt_7
                                case yt_7 => (intro w hSw; (try dsimp only at hSw); go_simp)
                                case qt_7 =>
                                  (try simp only [Act.put]); (try simp only [List.setIfInBounds_toArray])
                                  refine wpAnyH_take (i := 7) (v := (.pointer (some ⟨gr, 0, none⟩))) rfl (by kernel_rfl) (by kernel_rfl) (by kernel_rfl) (fun _ _ _ h => h) (Or.inl ⟨by rfl, ?yt_8⟩) (by assumption) ?qt_8
                                  case yt_8 => (intro w hSw; (try dsimp only at hSw); go_simp)
                                  case qt_8 =>
                                    (try simp only [Act.put]); (try simp only [List.setIfInBounds_toArray])
                                    refine wpAnyH_take (i := 8) (v := (.pointer (some ⟨gr, 0, none⟩))) rfl (by kernel_rfl) (by kernel_rfl) (by kernel_rfl) (fun _ _ _ h => h) (Or.inl ⟨by rfl, ?yt_9⟩) (by assumption) ?qt_9
                                    case yt_9 => (intro w hSw; (try dsimp only at hSw); go_simp)
                                    case qt_9 =>
                                      (try simp only [Act.put]); (try simp only [List.setIfInBounds_toArray])
                                      refine wpAnyH_take (i := 9) (v := (.pointer (some ⟨gr, 1, none⟩))) rfl (by kernel_rfl) (by kernel_rfl) (by kernel_rfl) (fun _ _ _ h => h) (Or.inl ⟨by rfl, ?yt_10⟩) (by assumption) ?qt_10
                                      case yt_10 => (intro w hSw; (try dsimp only at hSw); go_simp)
                                      case qt_10 =>
                                        (try simp only [Act.put]); (try simp only [List.setIfInBounds_toArray])
                                        refine wpAnyH_take (i := 10) (v := (.slice A n1 c)) rfl (by kernel_rfl) (by kernel_rfl) (by kernel_rfl) (fun _ _ _ h => h) (Or.inl ⟨by rfl, ?yt_11⟩) (by assumption) ?qt_11
                                        case yt_11 => (intro w hSw; (try dsimp only at hSw); go_simp)
                                        case qt_11 =>
                                          (try simp only [Act.put]); (try simp only [List.setIfInBounds_toArray])
                                          refine wpAnyH_take (i := 11) (v := (.int .i64 n1)) rfl (by kernel_rfl) (by kernel_rfl) (by kernel_rfl) (fun _ _ _ h => h) (Or.inl ⟨by rfl, ?yt_12⟩) (by assumption) ?qt_12
                                          case yt_12 => (intro w hSw; (try dsimp only at hSw); go_simp)
                                          case qt_12 =>
                                            (try simp only [Act.put]); (try simp only [List.setIfInBounds_toArray])
                                            refine wpAnyH_ready (rs := [12]) (by kernel_rfl) (by simp) ?_
                                            refine AllReadyH.cons rfl (fun K hK => ?st_13) ?mt_13
                                            case st_13 =>
                                              (refine step_mkS _ (by rfl) 3 #[.int .i64 n1] (by go_simp) ?_; intro gq Yq hxq hbq hsq; have HRq : Hid (Row Yq gq (gq + 1) 1 (some ⟨gq, 0, none⟩) 1 1 [.int .i64 n1]) := Lib.hid (row_blk hxq rfl (Nat.le_refl _) (by unfold maxLen; omega)); have HM7 := Lib.hid (HM7.out.after hbq); clear hxq hbq hsq)
                                              refine hK.out _ _ ?kt_13 (fun hHeld => ?qt_13)
                                              case kt_13 => ((try dsimp only); first | exact ⟨(rd_cells HBX.out).2.2.2.2, (rd_cells HBX.out).2.1⟩ | exact ⟨HM7.out.rdc.2.2.2.2, HM7.out.rdc.2.1⟩)
                                              case qt_13 =>
                                                clear hK K
                                                (try simp only [Act.put]); (try simp only [List.setIfInBounds_toArray])
                                                refine wpAnyH_ready (rs := [13]) (by kernel_rfl) (by simp) ?_
                                                refine AllReadyH.cons rfl (fun K hK => ?st_14) ?mt_14
                                                case st_14 =>
                                                  ((refine step_appS (o := ⟨some 63, _, _, _, _, _⟩) _ (by rfl) (.tmp 56) (.tmp 62) _ (by rfl) B 3 i1 _ 1 8 Tryz.underlying40 hi1 hz1 hs1 hb1 rfl (by omega) (.slice none 0 0) 0 [] (by go_simp) (World.ownsRow_nil _ _ _ _) gq (gq + 1) (some ⟨gq, 0, none⟩) 1 1 [.int .i64 n1] (by go_simp) HRq.out (by simp [Value.oneCell']) (by unfold maxLen; omega) (by omega) HM7.out.np.hB ?_); intro A' c' Yn hownN hgrN hnewN; have HM8 := Lib.hid (HM7.out.wayA (vw' := .slice A' (0 + 1) c') (ws' := ([] ++ [(n1 : Int)])) hBB (HWO.out _ _ hownN) hgrN hnewN); have HBX := Lib.hid (HM7.out.bx.grown (show World.grownBy _ Yn (Value.ownBlock (.slice none 0 0)) from hgrN) (Ne.symm (own_blk_ne HM7.out.np.way HM7.out.bx (by decide)))); clear hownN hgrN hnewN)
                                                  refine hK.out _ _ ?kt_14 (fun hHeld => ?qt_14)
                                                  case kt_14 => ((try dsimp only); first | exact ⟨(rd_cells HBX.out).2.2.2.2, (rd_cells HBX.out).2.1⟩ | exact ⟨HM7.out.rdc.2.2.2.2, HM7.out.rdc.2.1⟩)
                                                  case qt_14 =>
                                                    clear hK K
                                                    (try simp only [Act.put]); (try simp only [List.setIfInBounds_toArray])
                                                    refine wpAnyH_done (by kernel_rfl) ?_ _
                                                    clear hHeld
                                                    show wpList _ _ _ _ _ _
                                                    have s1 := (rd_cells HBX.out).2.2.2.2
                                                    have s2 := HBX.out.frozen 4
                                                    go_upto_region 8 with (fail)
                                                    clear s1 s2
                                                    clear HBX
                                                    generalize Yn.setCell ⟨gr, 4, none⟩ (.slice A' (0 + 1) c') = W8 at HM8 ⊢
                                                    have HM9 := Lib.hid HM8.out.drew
                                                    refine wp_region_held_tail 8 (fun Y => Y.cell? ⟨gr, 1, none⟩ = some (.slice A n1 c) ∧ Y.cell? ⟨w.heap.size, 0, none⟩ = some (.int .i64 n.id) ∧ Y.cell? ⟨w.heap.size, 1, none⟩ = some (.string n.con) ∧ Y.cell? ⟨w.heap.size, 2, none⟩ = some (.int .i64 n.par) ∧ Y.cell? ⟨w.heap.size, 3, none⟩ = some (.string n.role) ∧ Y.cell? ⟨w.heap.size, 4, none⟩ = some (.slice none 0 0) ∧ Y.cell? ⟨w.heap.size, 5, none⟩ = some (.slice none 0 0) ∧ Y.cell? ⟨w.heap.size, 6, none⟩ = some (.slice none 0 0)) (by kernel_rfl) (by kernel_rfl) ?hS8 (fun hHeld => ?q8)
                                                    case hS8 => exact ⟨HM9.out.rdc.2.1, HM9.out.ndc⟩
                                                    case q8 =>
                                                      simp only [List.take_succ_cons, List.take_zero, List.drop_succ_cons, List.drop_zero]
                                                      refine wpAnyH_take (i := 0) (v := (.pointer (some ⟨gr, 0, none⟩))) rfl (by kernel_rfl) (by kernel_rfl) (by kernel_rfl) (fun _ _ _ h => h) (Or.inl ⟨by rfl, ?yu_1⟩) (by assumption) ?qu_1
                                                      case yu_1 => (intro w hSw; (try dsimp only at hSw); go_simp)
                                                      case qu_1 =>
                                                        (try simp only [Act.put]); (try simp only [List.setIfInBounds_toArray])
                                                        refine wpAnyH_take (i := 1) (v := (.pointer (some ⟨gr, 0, none⟩))) rfl (by kernel_rfl) (by kernel_rfl) (by kernel_rfl) (fun _ _ _ h => h) (Or.inl ⟨by rfl, ?yu_2⟩) (by assumption) ?qu_2
                                                        case yu_2 => (intro w hSw; (try dsimp only at hSw); go_simp)
                                                        case qu_2 =>
                                                          (try simp only [Act.put]); (try simp only [List.setIfInBounds_toArray])
                                                          refine wpAnyH_take (i := 2) (v := (.pointer (some ⟨gr, 0, none⟩))) rfl (by kernel_rfl) (by kernel_rfl) (by kernel_rfl) (fun _ _ _ h => h) (Or.inl ⟨by rfl, ?yu_3⟩) (by assumption) ?qu_3
                                                          case yu_3 => (intro w hSw; (try dsimp only at hSw); go_simp)
                                                          case qu_3 =>
                                                            (try simp only [Act.put]); (try simp only [List.setIfInBounds_toArray])
                                                            refine wpAnyH_take (i := 3) (v := (.pointer (some ⟨gr, 1, none⟩))) rfl (by kernel_rfl) (by kernel_rfl) (by kernel_rfl) (fun _ _ _ h => h) (Or.inl ⟨by rfl, ?yu_4⟩) (by assumption) ?qu_4
                                                            case yu_4 => (intro w hSw; (try dsimp only at hSw); go_simp)
                                                            case qu_4 =>
                                                              (try simp only [Act.put]); (try simp only [List.setIfInBounds_toArray])
                                                              refine wpAnyH_take (i := 4) (v := (.slice A n1 c)) rfl (by kernel_rfl) (by kernel_rfl) (by kernel_rfl) (fun _ _ _ h => h) (Or.inl ⟨by rfl, ?yu_5⟩) (by assumption) ?qu_5
                                                              case yu_5 => (intro w hSw; (try dsimp only at hSw); go_simp)
                                                              case qu_5 =>
                                                                (try simp only [Act.put]); (try simp only [List.setIfInBounds_toArray])
                                                                refine wpAnyH_take (i := 5) (v := (.agg #[.int .i64 n.id, .string n.con, .int .i64 n.par, .string n.role, .slice none 0 0, .slice none 0 0, .slice none 0 0])) rfl (by kernel_rfl) (by kernel_rfl) (by kernel_rfl) (fun _ _ _ h => h) (Or.inl ⟨by rfl, ?yu_6⟩) (by assumption) ?qu_6
                                                                case yu_6 => (intro w hSw; (try dsimp only at hSw); go_simp)
                                                                case qu_6 =>
                                                                  (try simp only [Act.put]); (try simp only [List.setIfInBounds_toArray])
                                                                  refine wpAnyH_ready (rs := [6]) (by kernel_rfl) (by simp) ?_
                                                                  refine AllReadyH.cons rfl (fun K hK => ?su_7) ?mu_7
                                                                  case su_7 =>
                                                                    (refine step_mkS _ (by rfl) 55 #[.int .i64 n.id, .string n.con, .int .i64 n.par, .string n.role, .slice none 0 0, .slice none 0 0, .slice none 0 0] (by go_simp) ?_; intro gp Yp hxp hbp hsp; have HRp : Hid (Row Yp gp (gp + 1) 7 (some ⟨gp, 0, none⟩) 1 1 [.int .i64 n.id, .string n.con, .int .i64 n.par, .string n.role, .slice none 0 0, .slice none 0 0, .slice none 0 0]) := Lib.hid (row_blk hxp rfl (Nat.le_refl _) (by unfold maxLen; omega)); have HM9 := Lib.hid (HM9.out.after hbp); clear hxp hbp hsp)
                                                                    refine hK.out _ _ ?ku_7 (fun hHeld => ?qu_7)
                                                                    case ku_7 => ((try dsimp only); first | exact ⟨(rd_cells HBX.out).2.1, nd_cells HNX.out⟩ | exact ⟨HM9.out.rdc.2.1, HM9.out.ndc⟩)
                                                                    case qu_7 =>
                                                                      clear hK K
                                                                      (try simp only [Act.put]); (try simp only [List.setIfInBounds_toArray])
                                                                      refine wpAnyH_ready (rs := [7]) (by kernel_rfl) (by simp) ?_
                                                                      refine AllReadyH.cons rfl (fun K hK => ?su_8) ?mu_8
                                                                      case su_8 =>
                                                                        ((refine step_appS (o := ⟨some 73, _, _, _, _, _⟩) _ (by rfl) (.tmp 70) (.tmp 72) _ (by rfl) B 55 i2 _ 7 120 Tryz.underlying23 hi2 hz2 hs2 hb2 rfl (by omega) (.slice A n1 c) n1 (allCells l) (by go_simp) (HON.out _ HM9.out.np) gp (gp + 1) (some ⟨gp, 0, none⟩) 1 1 [.int .i64 n.id, .string n.con, .int .i64 n.par, .string n.role, .slice none 0 0, .slice none 0 0, .slice none 0 0] (by go_simp) HRp.out (by simp [Value.oneCell']) (by unfold maxLen; omega) (by omega) HM9.out.np.hB ?_); intro Az cz Yz hownZ hgrZ hnewZ; have HME := Lib.hid (HM9.out.node hBB HNN.out.1 HNN.out.2.1 HNN.out.2.2 HSZ.out (v' := .slice Az (n1 + 1) cz) (HOM.out _ _ hownZ) hgrZ); have HBX := Lib.hid (HM9.out.bx.grown hgrZ (Ne.symm (own_blk_ne HM9.out.np.own HM9.out.bx (by decide)))); have HNX := Lib.hid (HM9.out.nb.grown hgrZ (Ne.symm HM9.out.gv)); clear hownZ hgrZ hnewZ)
                                                                        refine hK.out _ _ ?ku_8 (fun hHeld => ?qu_8)
                                                                        case ku_8 => ((try dsimp only); first | exact ⟨(rd_cells HBX.out).2.1, nd_cells HNX.out⟩ | exact ⟨HM9.out.rdc.2.1, HM9.out.ndc⟩)
                                                                        case qu_8 =>
                                                                          clear hK K
                                                                          (try simp only [Act.put]); (try simp only [List.setIfInBounds_toArray])
                                                                          refine wpAnyH_done (by kernel_rfl) ?_ _
                                                                          clear hHeld
                                                                          show wpList _ _ _ _ _ _
                                                                          have s1 := (rd_cells HBX.out).2.1
                                                                          have s2 := HBX.out.frozen 1
                                                                          go_wp2_with fail
                                                                          go_end0
                                                                          exact HFIN.out _ _ _ HME.out
                                                                      case mu_8 =>
                                                                        exact AllReadyH.nil
                                                                  case mu_7 =>
                                                                    exact AllReadyH.nil
                                                case mt_14 =>
                                                  exact AllReadyH.nil
                                            case mt_13 =>
                                              exact AllReadyH.nil
set_option maxRecDepth 40000 in
set_option maxHeartbeats 6400000 in
theorem stand0_some (w : World) (B0 B gr gm k n1 c : Nat) (gw q cw : Nat) (A : Option Addr) (l : List (Nd × Leaf)) (st : RS) (h : RIn B gr gm k (.slice A n1 c) (.slice (some ⟨gw, 0, none⟩) q cw) l st w) (h0 : st.next ≠ 0) (hB0 : B0 ≤ gr) (hB1 : B0 ≤ gm) (n : Nd) (hn : n.par = 0 ∧ n.props = [] ∧ n.kids = [] ∧ n.refs = []) (hz : SzN n) (hid : 1 ≤ n.id ∧ n.id < st.next) (hno : ¬ noStand st n.id 0) (hk : k + 1 ≤ 4194304) :
    Calls Tryz.prog 86 #[.pointer (some ⟨gr, 0, none⟩), .int .i64 0, .agg #[.int .i64 n.id, .string n.con, .int .i64 n.par, .string n.role, .slice none 0 0, .slice none 0 0, .slice none 0 0]] w (StandQ B0 B gr gm k (stoodV st n 0) w) := by
  have H := Lib.hid h
  have hok := h.ok h0
  have hn1 := hok.n1
  have hn2 := hok.n2
  have hBB : B0 ≤ B := by have := h.lr; omega
  have HN4 : Hid (0 ≤ st.deep.getLastD 0 ∧ st.nds.length < 4096) := Lib.hid (by unfold noStand at hno; omega)
  have HLX : Hid (l.length = n1) := Lib.hid (by obtain ⟨A2, c2, hv, _⟩ := h.v_form; injection hv with _ hn _; rw [h.len]; exact hn.symm)
  have hn4 : n1 < 4096 := by have h1 := HN4.out.2; have h2 := HLX.out; have h3 := h.len; omega
  have HK1 : In64S n.id := ⟨by omega⟩
  have HSZ := Lib.hid hz
  have HNN : Hid (n.props = [] ∧ n.kids = [] ∧ n.refs = []) := Lib.hid hn.2
  have HID := Lib.hid hid
  have HNO := Lib.hid hno
  have hkk : k ≤ 4194304 := h.k1
  obtain ⟨i1, hi1, hz1, hs1, hb1⟩ := info_parts intInfo
  obtain ⟨i2, hi2, hz2, hs2, hb2⟩ := info_parts nodeInfo
  have HQ : Hid (st.deep.getLastD 0 = q ∧ q ≤ cw ∧ cw ≤ maxLen) := Lib.hid (by obtain ⟨A2, c2, hv, h5, h6⟩ := h.w_form; injection hv with _ hn hc; subst hn hc; exact ⟨rfl, h5, h6⟩)
  have hdc : 0 ≤ cw := Nat.zero_le _
  have HTK : Hid (((wayI st.deep).take 0).length = 0) := Lib.hid (by rw [List.length_take]; omega)
  have HOC : Hid (∀ (X : World) {v : Value} {l : List (Nd × Leaf)}, NP B v (.slice (some ⟨gw, 0, none⟩) q cw) l (wayI st.deep) X → X.ownsRow B 3 1 (.slice (some ⟨gw, 0, none⟩) 0 cw) 0 (intCells ((wayI st.deep).take 0))) := Lib.hid fun X v l hX => by
    have h1 := hX.way
    rw [wayI_len, HQ.out.1] at h1
    exact own_cut1 h1 (Nat.zero_le _)
  have HWO : Hid (∀ (X : World) (u : Value), X.ownsRow B 3 1 u (0 + 1) (intCells ((wayI st.deep).take 0) ++ [.int .i64 (n1 : Int)]) → X.ownsRow B 3 1 u ((wayI st.deep).take 0 ++ [(n1 : Int)]).length (intCells ((wayI st.deep).take 0 ++ [(n1 : Int)]))) := Lib.hid fun X u hu => by
    rw [List.length_append, HTK.out]
    simpa [intCells] using hu
  have HFIN : Hid (∀ (vz vq : Value) (W : World), MidE B0 B gr gm (k + 1) st.next n.id vz vq (l ++ [(n, ⟨⟨none, 0, 0⟩, ⟨none, 0, 0⟩, ⟨none, 0, 0⟩⟩)]) ((wayI st.deep).take 0 ++ [(n1 : Int)]) (idsOf st ++ [n.id]) w W → StandQ B0 B gr gm k (stoodV st n 0) w (.returned (.tuple #[])) W) := Lib.hid fun vz vq W hE => by
    refine ⟨rfl, hE.bel, vz, vq, l ++ [(n, ⟨⟨none, 0, 0⟩, ⟨none, 0, 0⟩, ⟨none, 0, 0⟩⟩)], ?_⟩
    have hst : Stood st n 0 (stoodV st n 0) := standsV_stood (st := st) (by rw [standsV_is hok.dl hok.dk, if_neg hno])
    have hs : stoodV st n 0 = ⟨st.next, st.nds ++ [n], st.deep ++ [1]⟩ := by unfold stoodV; rw [if_pos rfl]
    have hR := hok.stood hst hid.1 hid.2
    rw [hs] at hR ⊢
    have hr : rootV ⟨st.next, st.nds ++ [n], st.deep ++ [1]⟩ = n.id := by
      unfold rootV
      rw [List.map_append]
      exact rootI_new st.deep (st.nds.map (·.id)) n.id (by rw [List.length_map]; exact hok.dl)
    have hw : wayI (st.deep ++ [1]) = ((wayI st.deep).take 0 ++ [(n1 : Int)]) := by
      have := wayI_snoc (deep := st.deep) (d := 0) (Nat.zero_le _)
      rw [show 0 + 1 = 1 from rfl] at this
      rw [this, hok.dl, ← H.out.len, HLX.out]
      skip
    refine ⟨?_, ?_, ?_, ?_, fun _ => hR, fun e => absurd e h0, ?_, H.out.lr, H.out.lm, hk⟩
    · have := hE.bx
      rw [hr]
      exact this
    · rw [hw]; exact hE.np
    · have := hE.set
      rw [List.map_append]
      exact this
    · rw [List.map_append, H.out.nds]; rfl
    · intro nd hnd
      rcases List.mem_append.1 hnd with hnd | hnd
      · have := H.out.ln nd hnd; omega
      · obtain rfl : nd = n := by simpa using hnd
        rw [hn.2.1, hn.2.2.1, hn.2.2.2]
        simp
  have HM0 : Hid (Mid B0 B gr gm w.heap.size k st.next (rootV st) (.slice A n1 c) (.slice (some ⟨gw, 0, none⟩) q cw) l (wayI st.deep) (idsOf st) n w (w.alloc (.cells #[.int .i64 n.id, .string n.con, .int .i64 n.par, .string n.role, .slice none 0 0, .slice none 0 0, .slice none 0 0] 55))) := Lib.hid (h.mid hB0 hB1 n)
  have HON : Hid (∀ (X : World) {vw : Value} {ws : List Int}, NP B (.slice A n1 c) vw l ws X → X.ownsRow B 55 7 (.slice A n1 c) n1 (allCells l)) := Lib.hid fun X vw ws hX => by have := hX.own; unfold OwnN at this; rw [HLX.out] at this; exact this
  have HOM : Hid (∀ (X : World) (u : Value), X.ownsRow B 55 7 u (n1 + 1) (allCells l ++ [.int .i64 n.id, .string n.con, .int .i64 n.par, .string n.role, .slice none 0 0, .slice none 0 0, .slice none 0 0]) → OwnN X B u (l ++ [(n, ⟨⟨none, 0, 0⟩, ⟨none, 0, 0⟩, ⟨none, 0, 0⟩⟩)])) := Lib.hid fun X u hu => by unfold OwnN; rw [allCells_snocS, List.length_append, HLX.out]; exact hu
  clear h hok hn hz hid hno
  go_enter Tryz.func86, Tryz.ntmps86
  go_upto_region 1 with (fail)
  generalize w.alloc (.cells #[.int .i64 n.id, .string n.con, .int .i64 n.par, .string n.role, .slice none 0 0, .slice none 0 0, .slice none 0 0] 55) = W0 at HM0 ⊢
  have x0 := HM0.out.ndc.1
  have x3 := HM0.out.rdc.2.2.2.1
  have f3 := HM0.out.bx.frozen 3
  go_upto_region 6 with (fail)
  have HM := Lib.hid (HM0.out.rootS n.id)
  generalize W0.setCell ⟨gr, 3, none⟩ (.int .i64 n.id) = W at HM ⊢
  clear x0 x3 f3 HM0
  have HMd := Lib.hid HM.out.drew
  obtain ⟨W6, hr6, hs6, hg6⟩ := HMd.out.set.put (n := n.id) HK1.out (by omega)
  have HR6 := Lib.hid hr6
  have HM6 := Lib.hid (HMd.out.put hs6 hg6)
  clear hr6 hs6 hg6
  refine wp_region_held_tail 7 (fun Y => Y.cell? ⟨gr, 2, none⟩ = some (.map (some gm)) ∧ Y.cell? ⟨w.heap.size, 0, none⟩ = some (.int .i64 n.id)) (by kernel_rfl) (by kernel_rfl) ?hS6 (fun hHeld => ?q6)
  case hS6 => exact ⟨HMd.out.rdc.2.2.1, HMd.out.ndc.1⟩
  case q6 =>
    simp only [List.take_succ_cons, List.take_zero, List.drop_succ_cons, List.drop_zero]
    refine wpAnyH_take (i := 0) (v := (.pointer (some ⟨gr, 0, none⟩))) rfl (by kernel_rfl) (by kernel_rfl) (by kernel_rfl) (fun _ _ _ h => h) (Or.inl ⟨by rfl, ?ys_1⟩) (by assumption) ?qs_1
    case ys_1 => (intro w hSw; (try dsimp only at hSw); go_simp)
    case qs_1 =>
      (try simp only [Act.put]); (try simp only [List.setIfInBounds_toArray])
      refine wpAnyH_take (i := 1) (v := (.pointer (some ⟨gr, 0, none⟩))) rfl (by kernel_rfl) (by kernel_rfl) (by kernel_rfl) (fun _ _ _ h => h) (Or.inl ⟨by rfl, ?ys_2⟩) (by assumption) ?qs_2
      case ys_2 => (intro w hSw; (try dsimp only at hSw); go_simp)
      case qs_2 =>
        (try simp only [Act.put]); (try simp only [List.setIfInBounds_toArray])
        refine wpAnyH_take (i := 2) (v := (.pointer (some ⟨gr, 2, none⟩))) rfl (by kernel_rfl) (by kernel_rfl) (by kernel_rfl) (fun _ _ _ h => h) (Or.inl ⟨by rfl, ?ys_3⟩) (by assumption) ?qs_3
        case ys_3 => (intro w hSw; (try dsimp only at hSw); go_simp)
        case qs_3 =>
          (try simp only [Act.put]); (try simp only [List.setIfInBounds_toArray])
          refine wpAnyH_take (i := 3) (v := (.map (some gm))) rfl (by kernel_rfl) (by kernel_rfl) (by kernel_rfl) (fun _ _ _ h => h) (Or.inl ⟨by rfl, ?ys_4⟩) (by assumption) ?qs_4
          case ys_4 => (intro w hSw; (try dsimp only at hSw); go_simp)
          case qs_4 =>
            (try simp only [Act.put]); (try simp only [List.setIfInBounds_toArray])
            refine wpAnyH_take (i := 4) (v := (.pointer (some ⟨w.heap.size, 0, none⟩))) rfl (by kernel_rfl) (by kernel_rfl) (by kernel_rfl) (fun _ _ _ h => h) (Or.inl ⟨by rfl, ?ys_5⟩) (by assumption) ?qs_5
            case ys_5 => (intro w hSw; (try dsimp only at hSw); go_simp)
            case qs_5 =>
              (try simp only [Act.put]); (try simp only [List.setIfInBounds_toArray])
              refine wpAnyH_take (i := 5) (v := (.int .i64 n.id)) rfl (by kernel_rfl) (by kernel_rfl) (by kernel_rfl) (fun _ _ _ h => h) (Or.inl ⟨by rfl, ?ys_6⟩) (by assumption) ?qs_6
              case ys_6 => (intro w hSw; (try dsimp only at hSw); go_simp)
              case qs_6 =>
                (try simp only [Act.put]); (try simp only [List.setIfInBounds_toArray])
                refine wpAnyH_take (i := 6) (v := (.agg #[])) rfl (by kernel_rfl) (by kernel_rfl) (by kernel_rfl) (fun _ _ _ h => h) (Or.inl ⟨by rfl, ?ys_7⟩) (by assumption) ?qs_7
                case ys_7 => (intro w hSw; (try dsimp only at hSw); go_simp)
                case qs_7 =>
                  (try simp only [Act.put]); (try simp only [List.setIfInBounds_toArray])
                  refine wpAnyH_done (by kernel_rfl) ?_ _
                  clear hHeld
                  show wpList _ _ _ _ _ _
                  refine wpList_mapS (o := ⟨none, _, _, _, _, _⟩) rfl (.tmp 46) (.tmp 48) (.tmp 49) _ rfl (by go_simp) (by go_simp) (by go_simp) HR6.out ?_
                  (try simp only [Act.put]); (try simp only [List.setIfInBounds_toArray])
                  go_upto_region 7 with (fail)
                  have HM7 := Lib.hid HM6.out.drew
                  refine wp_region_held_tail 14 (fun Y => Y.cell? ⟨gr, 4, none⟩ = some (.slice (some ⟨gw, 0, none⟩) q cw) ∧ Y.cell? ⟨gr, 1, none⟩ = some (.slice A n1 c)) (by kernel_rfl) (by kernel_rfl) ?hS7 (fun hHeld => ?q7)
                  case hS7 => exact ⟨HM7.out.rdc.2.2.2.2, HM7.out.rdc.2.1⟩
                  case q7 =>
                    simp only [List.take_succ_cons, List.take_zero, List.drop_succ_cons, List.drop_zero]
                    refine wpAnyH_take (i := 0) (v := (.pointer (some ⟨gr, 0, none⟩))) rfl (by kernel_rfl) (by kernel_rfl) (by kernel_rfl) (fun _ _ _ h => h) (Or.inl ⟨by rfl, ?yt_1⟩) (by assumption) ?qt_1
                    case yt_1 => (intro w hSw; (try dsimp only at hSw); go_simp)
                    case qt_1 =>
                      (try simp only [Act.put]); (try simp only [List.setIfInBounds_toArray])
                      refine wpAnyH_take (i := 1) (v := (.pointer (some ⟨gr, 0, none⟩))) rfl (by kernel_rfl) (by kernel_rfl) (by kernel_rfl) (fun _ _ _ h => h) (Or.inl ⟨by rfl, ?yt_2⟩) (by assumption) ?qt_2
                      case yt_2 => (intro w hSw; (try dsimp only at hSw); go_simp)
                      case qt_2 =>
                        (try simp only [Act.put]); (try simp only [List.setIfInBounds_toArray])
                        refine wpAnyH_take (i := 2) (v := (.pointer (some ⟨gr, 0, none⟩))) rfl (by kernel_rfl) (by kernel_rfl) (by kernel_rfl) (fun _ _ _ h => h) (Or.inl ⟨by rfl, ?yt_3⟩) (by assumption) ?qt_3
                        case yt_3 => (intro w hSw; (try dsimp only at hSw); go_simp)
                        case qt_3 =>
                          (try simp only [Act.put]); (try simp only [List.setIfInBounds_toArray])
                          refine wpAnyH_take (i := 3) (v := (.pointer (some ⟨gr, 4, none⟩))) rfl (by kernel_rfl) (by kernel_rfl) (by kernel_rfl) (fun _ _ _ h => h) (Or.inl ⟨by rfl, ?yt_4⟩) (by assumption) ?qt_4
                          case yt_4 => (intro w hSw; (try dsimp only at hSw); go_simp)
                          case qt_4 =>
                            (try simp only [Act.put]); (try simp only [List.setIfInBounds_toArray])
                            refine wpAnyH_take (i := 4) (v := (.slice (some ⟨gw, 0, none⟩) q cw)) rfl (by kernel_rfl) (by kernel_rfl) (by kernel_rfl) (fun _ _ _ h => h) (Or.inl ⟨by rfl, ?yt_5⟩) (by assumption) ?qt_5
                            case yt_5 => (intro w hSw; (try dsimp only at hSw); go_simp)
                            case qt_5 =>
                              (try simp only [Act.put]); (try simp only [List.setIfInBounds_toArray])
                              refine wpAnyH_take (i := 5) (v := (.int .i64 0)) rfl (by kernel_rfl) (by kernel_rfl) (by kernel_rfl) (fun _ _ _ h => h) (Or.inl ⟨by rfl, ?yt_6⟩) (by assumption) ?qt_6
                              case yt_6 => (intro w hSw; (try dsimp only at hSw); go_simp)
                              case qt_6 =>
                                (try simp only [Act.put]); (try simp only [List.setIfInBounds_toArray])
                                refine wpAnyH_take (i := 6) (v := (.slice (some ⟨gw, 0, none⟩) 0 cw)) rfl (by kernel_rfl) (by kernel_rfl) (by kernel_rfl) (fun _ _ _ h => h) (Or.inl ⟨by rfl, ?yt_7⟩) (by assumption) ?qt_7
                                case yt_7 => (intro w hSw; (try dsimp only at hSw); go_simp)
                                case qt_7 =>
                                  (try simp only [Act.put]); (try simp only [List.setIfInBounds_toArray])
                                  refine wpAnyH_take (i := 7) (v := (.pointer (some ⟨gr, 0, none⟩))) rfl (by kernel_rfl) (by kernel_rfl) (by kernel_rfl) (fun _ _ _ h => h) (Or.inl ⟨by rfl, ?yt_8⟩) (by assumption) ?qt_8
                                  case yt_8 => (intro w hSw; (try dsimp only at hSw); go_simp)
                                  case qt_8 =>
                                    (try simp only [Act.put]); (try simp only [List.setIfInBounds_toArray])
                                    refine wpAnyH_take (i := 8) (v := (.pointer (some ⟨gr, 0, none⟩))) rfl (by kernel_rfl) (by kernel_rfl) (by kernel_rfl) (fun _ _ _ h => h) (Or.inl ⟨by rfl, ?yt_9⟩) (by assumption) ?qt_9
                                    case yt_9 => (intro w hSw; (try dsimp only at hSw); go_simp)
                                    case qt_9 =>
                                      (try simp only [Act.put]); (try simp only [List.setIfInBounds_toArray])
                                      refine wpAnyH_take (i := 9) (v := (.pointer (some ⟨gr, 1, none⟩))) rfl (by kernel_rfl) (by kernel_rfl) (by kernel_rfl) (fun _ _ _ h => h) (Or.inl ⟨by rfl, ?yt_10⟩) (by assumption) ?qt_10
                                      case yt_10 => (intro w hSw; (try dsimp only at hSw); go_simp)
                                      case qt_10 =>
                                        (try simp only [Act.put]); (try simp only [List.setIfInBounds_toArray])
                                        refine wpAnyH_take (i := 10) (v := (.slice A n1 c)) rfl (by kernel_rfl) (by kernel_rfl) (by kernel_rfl) (fun _ _ _ h => h) (Or.inl ⟨by rfl, ?yt_11⟩) (by assumption) ?qt_11
                                        case yt_11 => (intro w hSw; (try dsimp only at hSw); go_simp)
                                        case qt_11 =>
                                          (try simp only [Act.put]); (try simp only [List.setIfInBounds_toArray])
                                          refine wpAnyH_take (i := 11) (v := (.int .i64 n1)) rfl (by kernel_rfl) (by kernel_rfl) (by kernel_rfl) (fun _ _ _ h => h) (Or.inl ⟨by rfl, ?yt_12⟩) (by assumption) ?qt_12
                                          case yt_12 => (intro w hSw; (try dsimp only at hSw); go_simp)
                                          case qt_12 =>
                                            (try simp only [Act.put]); (try simp only [List.setIfInBounds_toArray])
                                            refine wpAnyH_ready (rs := [12]) (by kernel_rfl) (by simp) ?_
                                            refine AllReadyH.cons rfl (fun K hK => ?st_13) ?mt_13
                                            case st_13 =>
                                              (refine step_mkS _ (by rfl) 3 #[.int .i64 n1] (by go_simp) ?_; intro gq Yq hxq hbq hsq; have HRq : Hid (Row Yq gq (gq + 1) 1 (some ⟨gq, 0, none⟩) 1 1 [.int .i64 n1]) := Lib.hid (row_blk hxq rfl (Nat.le_refl _) (by unfold maxLen; omega)); have HM7 := Lib.hid (HM7.out.after hbq); clear hxq hbq hsq)
                                              refine hK.out _ _ ?kt_13 (fun hHeld => ?qt_13)
                                              case kt_13 => ((try dsimp only); first | exact ⟨(rd_cells HBX.out).2.2.2.2, (rd_cells HBX.out).2.1⟩ | exact ⟨HM7.out.rdc.2.2.2.2, HM7.out.rdc.2.1⟩)
                                              case qt_13 =>
                                                clear hK K
                                                (try simp only [Act.put]); (try simp only [List.setIfInBounds_toArray])
                                                refine wpAnyH_ready (rs := [13]) (by kernel_rfl) (by simp) ?_
                                                refine AllReadyH.cons rfl (fun K hK => ?st_14) ?mt_14
                                                case st_14 =>
                                                  ((refine step_appS (o := ⟨some 63, _, _, _, _, _⟩) _ (by rfl) (.tmp 56) (.tmp 62) _ (by rfl) B 3 i1 _ 1 8 Tryz.underlying40 hi1 hz1 hs1 hb1 rfl (by omega) (.slice (some ⟨gw, 0, none⟩) 0 cw) 0 (intCells ((wayI st.deep).take 0)) (by go_simp) (HOC.out _ HM7.out.np) gq (gq + 1) (some ⟨gq, 0, none⟩) 1 1 [.int .i64 n1] (by go_simp) HRq.out (by simp [Value.oneCell']) (by unfold maxLen; omega) (by omega) HM7.out.np.hB ?_); intro A' c' Yn hownN hgrN hnewN; have HM8 := Lib.hid (HM7.out.wayA (vw' := .slice A' (0 + 1) c') (ws' := ((wayI st.deep).take 0 ++ [(n1 : Int)])) hBB (HWO.out _ _ hownN) hgrN hnewN); have HBX := Lib.hid (HM7.out.bx.grown (show World.grownBy _ Yn (Value.ownBlock (.slice (some ⟨gw, 0, none⟩) q cw)) from hgrN) (Ne.symm (own_blk_ne HM7.out.np.way HM7.out.bx (by decide)))); clear hownN hgrN hnewN)
                                                  refine hK.out _ _ ?kt_14 (fun hHeld => ?qt_14)
                                                  case kt_14 => ((try dsimp only); first | exact ⟨(rd_cells HBX.out).2.2.2.2, (rd_cells HBX.out).2.1⟩ | exact ⟨HM7.out.rdc.2.2.2.2, HM7.out.rdc.2.1⟩)
                                                  case qt_14 =>
                                                    clear hK K
                                                    (try simp only [Act.put]); (try simp only [List.setIfInBounds_toArray])
                                                    refine wpAnyH_done (by kernel_rfl) ?_ _
                                                    clear hHeld
                                                    show wpList _ _ _ _ _ _
                                                    have s1 := (rd_cells HBX.out).2.2.2.2
                                                    have s2 := HBX.out.frozen 4
                                                    go_upto_region 8 with (fail)
                                                    clear s1 s2
                                                    clear HBX
                                                    generalize Yn.setCell ⟨gr, 4, none⟩ (.slice A' (0 + 1) c') = W8 at HM8 ⊢
                                                    have HM9 := Lib.hid HM8.out.drew
                                                    refine wp_region_held_tail 8 (fun Y => Y.cell? ⟨gr, 1, none⟩ = some (.slice A n1 c) ∧ Y.cell? ⟨w.heap.size, 0, none⟩ = some (.int .i64 n.id) ∧ Y.cell? ⟨w.heap.size, 1, none⟩ = some (.string n.con) ∧ Y.cell? ⟨w.heap.size, 2, none⟩ = some (.int .i64 n.par) ∧ Y.cell? ⟨w.heap.size, 3, none⟩ = some (.string n.role) ∧ Y.cell? ⟨w.heap.size, 4, none⟩ = some (.slice none 0 0) ∧ Y.cell? ⟨w.heap.size, 5, none⟩ = some (.slice none 0 0) ∧ Y.cell? ⟨w.heap.size, 6, none⟩ = some (.slice none 0 0)) (by kernel_rfl) (by kernel_rfl) ?hS8 (fun hHeld => ?q8)
                                                    case hS8 => exact ⟨HM9.out.rdc.2.1, HM9.out.ndc⟩
                                                    case q8 =>
                                                      simp only [List.take_succ_cons, List.take_zero, List.drop_succ_cons, List.drop_zero]
                                                      refine wpAnyH_take (i := 0) (v := (.pointer (some ⟨gr, 0, none⟩))) rfl (by kernel_rfl) (by kernel_rfl) (by kernel_rfl) (fun _ _ _ h => h) (Or.inl ⟨by rfl, ?yu_1⟩) (by assumption) ?qu_1
                                                      case yu_1 => (intro w hSw; (try dsimp only at hSw); go_simp)
                                                      case qu_1 =>
                                                        (try simp only [Act.put]); (try simp only [List.setIfInBounds_toArray])
                                                        refine wpAnyH_take (i := 1) (v := (.pointer (some ⟨gr, 0, none⟩))) rfl (by kernel_rfl) (by kernel_rfl) (by kernel_rfl) (fun _ _ _ h => h) (Or.inl ⟨by rfl, ?yu_2⟩) (by assumption) ?qu_2
                                                        case yu_2 => (intro w hSw; (try dsimp only at hSw); go_simp)
                                                        case qu_2 =>
                                                          (try simp only [Act.put]); (try simp only [List.setIfInBounds_toArray])
                                                          refine wpAnyH_take (i := 2) (v := (.pointer (some ⟨gr, 0, none⟩))) rfl (by kernel_rfl) (by kernel_rfl) (by kernel_rfl) (fun _ _ _ h => h) (Or.inl ⟨by rfl, ?yu_3⟩) (by assumption) ?qu_3
                                                          case yu_3 => (intro w hSw; (try dsimp only at hSw); go_simp)
                                                          case qu_3 =>
                                                            (try simp only [Act.put]); (try simp only [List.setIfInBounds_toArray])
                                                            refine wpAnyH_take (i := 3) (v := (.pointer (some ⟨gr, 1, none⟩))) rfl (by kernel_rfl) (by kernel_rfl) (by kernel_rfl) (fun _ _ _ h => h) (Or.inl ⟨by rfl, ?yu_4⟩) (by assumption) ?qu_4
                                                            case yu_4 => (intro w hSw; (try dsimp only at hSw); go_simp)
                                                            case qu_4 =>
                                                              (try simp only [Act.put]); (try simp only [List.setIfInBounds_toArray])
                                                              refine wpAnyH_take (i := 4) (v := (.slice A n1 c)) rfl (by kernel_rfl) (by kernel_rfl) (by kernel_rfl) (fun _ _ _ h => h) (Or.inl ⟨by rfl, ?yu_5⟩) (by assumption) ?qu_5
                                                              case yu_5 => (intro w hSw; (try dsimp only at hSw); go_simp)
                                                              case qu_5 =>
                                                                (try simp only [Act.put]); (try simp only [List.setIfInBounds_toArray])
                                                                refine wpAnyH_take (i := 5) (v := (.agg #[.int .i64 n.id, .string n.con, .int .i64 n.par, .string n.role, .slice none 0 0, .slice none 0 0, .slice none 0 0])) rfl (by kernel_rfl) (by kernel_rfl) (by kernel_rfl) (fun _ _ _ h => h) (Or.inl ⟨by rfl, ?yu_6⟩) (by assumption) ?qu_6
                                                                case yu_6 => (intro w hSw; (try dsimp only at hSw); go_simp)
                                                                case qu_6 =>
                                                                  (try simp only [Act.put]); (try simp only [List.setIfInBounds_toArray])
                                                                  refine wpAnyH_ready (rs := [6]) (by kernel_rfl) (by simp) ?_
                                                                  refine AllReadyH.cons rfl (fun K hK => ?su_7) ?mu_7
                                                                  case su_7 =>
                                                                    (refine step_mkS _ (by rfl) 55 #[.int .i64 n.id, .string n.con, .int .i64 n.par, .string n.role, .slice none 0 0, .slice none 0 0, .slice none 0 0] (by go_simp) ?_; intro gp Yp hxp hbp hsp; have HRp : Hid (Row Yp gp (gp + 1) 7 (some ⟨gp, 0, none⟩) 1 1 [.int .i64 n.id, .string n.con, .int .i64 n.par, .string n.role, .slice none 0 0, .slice none 0 0, .slice none 0 0]) := Lib.hid (row_blk hxp rfl (Nat.le_refl _) (by unfold maxLen; omega)); have HM9 := Lib.hid (HM9.out.after hbp); clear hxp hbp hsp)
                                                                    refine hK.out _ _ ?ku_7 (fun hHeld => ?qu_7)
                                                                    case ku_7 => ((try dsimp only); first | exact ⟨(rd_cells HBX.out).2.1, nd_cells HNX.out⟩ | exact ⟨HM9.out.rdc.2.1, HM9.out.ndc⟩)
                                                                    case qu_7 =>
                                                                      clear hK K
                                                                      (try simp only [Act.put]); (try simp only [List.setIfInBounds_toArray])
                                                                      refine wpAnyH_ready (rs := [7]) (by kernel_rfl) (by simp) ?_
                                                                      refine AllReadyH.cons rfl (fun K hK => ?su_8) ?mu_8
                                                                      case su_8 =>
                                                                        ((refine step_appS (o := ⟨some 73, _, _, _, _, _⟩) _ (by rfl) (.tmp 70) (.tmp 72) _ (by rfl) B 55 i2 _ 7 120 Tryz.underlying23 hi2 hz2 hs2 hb2 rfl (by omega) (.slice A n1 c) n1 (allCells l) (by go_simp) (HON.out _ HM9.out.np) gp (gp + 1) (some ⟨gp, 0, none⟩) 1 1 [.int .i64 n.id, .string n.con, .int .i64 n.par, .string n.role, .slice none 0 0, .slice none 0 0, .slice none 0 0] (by go_simp) HRp.out (by simp [Value.oneCell']) (by unfold maxLen; omega) (by omega) HM9.out.np.hB ?_); intro Az cz Yz hownZ hgrZ hnewZ; have HME := Lib.hid (HM9.out.node hBB HNN.out.1 HNN.out.2.1 HNN.out.2.2 HSZ.out (v' := .slice Az (n1 + 1) cz) (HOM.out _ _ hownZ) hgrZ); have HBX := Lib.hid (HM9.out.bx.grown hgrZ (Ne.symm (own_blk_ne HM9.out.np.own HM9.out.bx (by decide)))); have HNX := Lib.hid (HM9.out.nb.grown hgrZ (Ne.symm HM9.out.gv)); clear hownZ hgrZ hnewZ)
                                                                        refine hK.out _ _ ?ku_8 (fun hHeld => ?qu_8)
                                                                        case ku_8 => ((try dsimp only); first | exact ⟨(rd_cells HBX.out).2.1, nd_cells HNX.out⟩ | exact ⟨HM9.out.rdc.2.1, HM9.out.ndc⟩)
                                                                        case qu_8 =>
                                                                          clear hK K
                                                                          (try simp only [Act.put]); (try simp only [List.setIfInBounds_toArray])
                                                                          refine wpAnyH_done (by kernel_rfl) ?_ _
                                                                          clear hHeld
                                                                          show wpList _ _ _ _ _ _
                                                                          have s1 := (rd_cells HBX.out).2.1
                                                                          have s2 := HBX.out.frozen 1
                                                                          go_wp2_with fail
                                                                          go_end0
                                                                          exact HFIN.out _ _ _ HME.out
                                                                      case mu_8 =>
                                                                        exact AllReadyH.nil
                                                                  case mu_7 =>
                                                                    exact AllReadyH.nil
                                                case mt_14 =>
                                                  exact AllReadyH.nil
                                            case mt_13 =>
                                              exact AllReadyH.nil
set_option maxRecDepth 40000 in
set_option maxHeartbeats 6400000 in
theorem stand_pos (w : World) (B0 B gr gm k n1 c g gw q cw : Nat) (l : List (Nd × Leaf)) (st : RS) (h : RIn B gr gm k (.slice (some ⟨g, 0, none⟩) n1 c) (.slice (some ⟨gw, 0, none⟩) q cw) l st w) (h0 : st.next ≠ 0) (hB0 : B0 ≤ gr) (hB1 : B0 ≤ gm) (n : Nd) (hn : n.par = 0 ∧ n.props = [] ∧ n.kids = [] ∧ n.refs = []) (hz : SzN n) (hid : 1 ≤ n.id ∧ n.id < st.next) (d : Nat) (hd : 0 < d) (hno : ¬ noStand st n.id d) (hk : k + 1 ≤ 4194304)
    (i : Nat) (nd : Nd) (P R : Sl) (Ka : Option Addr) (Kn Kc : Nat) (hs : StoodAt st n d i nd (stoodV st n d)) (hi : l[i]? = some (nd, ⟨P, ⟨Ka, Kn, Kc⟩, R⟩)) :
    Calls Tryz.prog 86 #[.pointer (some ⟨gr, 0, none⟩), .int .i64 d, .agg #[.int .i64 n.id, .string n.con, .int .i64 n.par, .string n.role, .slice none 0 0, .slice none 0 0, .slice none 0 0]] w (StandQ B0 B gr gm k (stoodV st n d) w) := by
  have H := Lib.hid h
  have hok := h.ok h0
  have hn1 := hok.n1
  have hn2 := hok.n2
  have hBB : B0 ≤ B := by have := h.lr; omega
  have HN4 : Hid (d ≤ st.deep.getLastD 0 ∧ st.nds.length < 4096) := Lib.hid (by unfold noStand at hno; omega)
  have HLX : Hid (l.length = n1) := Lib.hid (by obtain ⟨A2, c2, hv, _⟩ := h.v_form; injection hv with _ hn _; rw [h.len]; exact hn.symm)
  have hn4 : n1 < 4096 := by have h1 := HN4.out.2; have h2 := HLX.out; have h3 := h.len; omega
  have HK1 : In64S n.id := ⟨by omega⟩
  have HSZ : Hid (SzN { n with par := nd.id }) := Lib.hid ⟨hz.con, hz.role, hz.props, hz.refs⟩
  have HNN : Hid (n.props = [] ∧ n.kids = [] ∧ n.refs = []) := Lib.hid hn.2
  have hkk : k ≤ 4194304 := h.k1
  obtain ⟨i1, hi1, hz1, hs1, hb1⟩ := info_parts intInfo
  obtain ⟨i2, hi2, hz2, hs2, hb2⟩ := info_parts nodeInfo
  have HQ : Hid (st.deep.getLastD 0 = q ∧ q ≤ cw ∧ cw ≤ maxLen) := Lib.hid (by obtain ⟨A2, c2, hv, h5, h6⟩ := h.w_form; injection hv with _ hn hc; subst hn hc; exact ⟨rfl, h5, h6⟩)
  have hdq : d ≤ q := by have h1 := HN4.out.1; have h2 := HQ.out.1; omega
  have hdc : d ≤ cw := by have h2 := HQ.out.2.1; omega
  have hd64 : d < 64 := by unfold noStand at hno; omega
  have hq64 : q ≤ 4096 := by
    have h2 := HQ.out.1
    by_cases he : st.deep = []
    · rw [he] at h2; simp at h2; omega
    · have := hok.dk.pos (st.deep.getLastD 0) (by rw [List.getLastD_eq_getLast?, List.getLast?_eq_some_getLast he]; exact List.getLast_mem he)
      omega
  have hilt : i < n1 := by have h1 := (List.getElem?_eq_some_iff.1 hi).1; have h2 := HLX.out; omega
  have hcm : c ≤ 9223372036854775807 := by obtain ⟨A2, c2, hv, h5, h6⟩ := h.v_form; injection hv with _ _ hc; subst hc; unfold maxLen at h6; exact h6
  have HKN : Hid (Kn = nd.kids.length ∧ nd.kids.length ≤ k) := Lib.hid ⟨(h.np.leaf _ (List.mem_of_getElem? hi)).kn, (h.ln nd (List.mem_of_getElem? hs.at_)).2.1⟩
  have hknb : Kn ≤ 4194304 := by have := HKN.out; omega
  have HTK : Hid (((wayI st.deep).take d).length = d) := Lib.hid (by rw [List.length_take, wayI_len]; have := HN4.out.1; omega)
  have HOC : Hid (∀ (X : World) {v : Value} {l : List (Nd × Leaf)}, NP B v (.slice (some ⟨gw, 0, none⟩) q cw) l (wayI st.deep) X → X.ownsRow B 3 1 (.slice (some ⟨gw, 0, none⟩) d cw) d (intCells ((wayI st.deep).take d))) := Lib.hid fun X v l hX => by
    have h1 := hX.way
    rw [wayI_len, HQ.out.1] at h1
    exact own_cut1 h1 hdq
  have HWO : Hid (∀ (X : World) (u : Value), X.ownsRow B 3 1 u (d + 1) (intCells ((wayI st.deep).take d) ++ [.int .i64 (n1 : Int)]) → X.ownsRow B 3 1 u ((wayI st.deep).take d ++ [(n1 : Int)]).length (intCells ((wayI st.deep).take d ++ [(n1 : Int)]))) := Lib.hid fun X u hu => by
    rw [List.length_append, HTK.out]
    simpa [intCells] using hu
  have HGK : Hid (∀ (X : World) {vw : Value} {ws : List Int}, NP B (.slice (some ⟨g, 0, none⟩) n1 c) vw l ws X → X.ownsRow B 3 1 (.slice Ka Kn Kc) Kn (intCells nd.kids)) := Lib.hid fun X vw ws hX => (hX.leaf _ (List.mem_of_getElem? hi)).k
  have HCI : Hid (∀ (X : World) {vw : Value} {ws : List Int}, NP B (.slice (some ⟨g, 0, none⟩) n1 c) vw l ws X → NodeAt X g (i * 7) nd ⟨P, ⟨Ka, Kn, Kc⟩, R⟩) := Lib.hid fun X vw ws hX => hX.cells HLX.out hi
  have HWC : Hid (∀ (X : World) {v : Value} {l : List (Nd × Leaf)}, NP B v (.slice (some ⟨gw, 0, none⟩) q cw) l (wayI st.deep) X → X.cell? ⟨gw, d - 1, none⟩ = some (.int .i64 (i : Int))) := Lib.hid fun X v l hX => by
    have h1 := hX.way
    rw [wayI_len, HQ.out.1] at h1
    rw [World.ownsRow.cellAt h1 (d - 1) (by omega)]
    exact intCells_get hs.way
  have HON : Hid (∀ (Ak : Option Addr) (ck : Nat) (X : World) {vw : Value} {ws : List Int}, NP B (.slice (some ⟨g, 0, none⟩) n1 c) vw (l.set i ({ nd with kids := nd.kids ++ [n.id] }, ⟨P, ⟨Ak, Kn + 1, ck⟩, R⟩)) ws X → X.ownsRow B 55 7 (.slice (some ⟨g, 0, none⟩) n1 c) n1 (allCells (l.set i ({ nd with kids := nd.kids ++ [n.id] }, ⟨P, ⟨Ak, Kn + 1, ck⟩, R⟩)))) := Lib.hid fun Ak ck X vw ws hX => by have := hX.own; unfold OwnN at this; rw [List.length_set, HLX.out] at this; exact this
  have HOM : Hid (∀ (Ak : Option Addr) (ck : Nat) (X : World) (u : Value), X.ownsRow B 55 7 u (n1 + 1) (allCells (l.set i ({ nd with kids := nd.kids ++ [n.id] }, ⟨P, ⟨Ak, Kn + 1, ck⟩, R⟩)) ++ [.int .i64 n.id, .string n.con, .int .i64 nd.id, .string n.role, .slice none 0 0, .slice none 0 0, .slice none 0 0]) → OwnN X B u (l.set i ({ nd with kids := nd.kids ++ [n.id] }, ⟨P, ⟨Ak, Kn + 1, ck⟩, R⟩) ++ [({ n with par := nd.id }, ⟨⟨none, 0, 0⟩, ⟨none, 0, 0⟩, ⟨none, 0, 0⟩⟩)])) := Lib.hid fun Ak ck X u hu => by unfold OwnN; rw [allCells_snocS, List.length_append, List.length_set, HLX.out]; exact hu
  have HII := Lib.hid hi
  have HLS : Hid (∀ (Ak : Option Addr) (ck : Nat), (l.set i ({ nd with kids := nd.kids ++ [n.id] }, ⟨P, ⟨Ak, Kn + 1, ck⟩, R⟩)).length = n1) := Lib.hid fun _ _ => by rw [List.length_set]; exact HLX.out
  have HFIN : Hid (∀ (Ak : Option Addr) (ck : Nat) (vz vq : Value) (W : World), MidE B0 B gr gm (k + 1) st.next (rootV st) vz vq (l.set i ({ nd with kids := nd.kids ++ [n.id] }, ⟨P, ⟨Ak, Kn + 1, ck⟩, R⟩) ++ [({ n with par := nd.id }, ⟨⟨none, 0, 0⟩, ⟨none, 0, 0⟩, ⟨none, 0, 0⟩⟩)]) ((wayI st.deep).take d ++ [(n1 : Int)]) (idsOf st ++ [n.id]) w W → StandQ B0 B gr gm k (stoodV st n d) w (.returned (.tuple #[])) W) := Lib.hid fun Ak ck vz vq W hE => by
    refine ⟨rfl, hE.bel, vz, vq, (l.set i ({ nd with kids := nd.kids ++ [n.id] }, ⟨P, ⟨Ak, Kn + 1, ck⟩, R⟩) ++ [({ n with par := nd.id }, ⟨⟨none, 0, 0⟩, ⟨none, 0, 0⟩, ⟨none, 0, 0⟩⟩)]), ?_⟩
    have hst : Stood st n d (stoodV st n d) := standsV_stood (st := st) (by rw [standsV_is hok.dl hok.dk, if_neg hno])
    have hR := hok.stood hst hid.1 hid.2
    have hids := ids_stood hs
    have his := hs.is
    have hroot : rootV (stoodV st n d) = rootV st := by
      have h1 : (stoodV st n d).deep = st.deep ++ [d + 1] := by rw [his]
      unfold rootV
      rw [h1, show (stoodV st n d).nds.map (·.id) = st.nds.map (·.id) ++ [n.id] from hids]
      exact rootI_old _ _ _ hd (by rw [List.length_map]; exact hok.dl)
    have hw : wayI (stoodV st n d).deep = (wayI st.deep).take d ++ [(n1 : Int)] := by
      have h1 : (stoodV st n d).deep = st.deep ++ [d + 1] := by rw [his]
      rw [h1, wayI_snoc HN4.out.1, hok.dl, ← H.out.len, HLX.out]
    have hnx : (stoodV st n d).next = st.next := by rw [his]
    refine ⟨?_, ?_, ?_, ?_, fun _ => hR, fun e => absurd (hnx ▸ e) h0, ?_, H.out.lr, H.out.lm, hk⟩
    · have := hE.bx
      rw [hroot, hnx]
      exact this
    · rw [hw]; exact hE.np
    · have := hE.set
      rw [show (stoodV st n d).nds.map (·.id) = st.nds.map (·.id) ++ [n.id] from hids]
      exact this
    · rw [his]
      simp only
      rw [List.map_append, List.map_set, H.out.nds]
      rfl
    · intro x hx
      rw [his] at hx
      simp only at hx
      rcases List.mem_append.1 hx with hx | hx
      · rcases List.mem_or_eq_of_mem_set hx with hx | rfl
        · have := H.out.ln x hx; omega
        · have := H.out.ln nd (List.mem_of_getElem? hs.at_)
          simp only [List.length_append, List.length_singleton]
          omega
      · obtain rfl : x = _ := by simpa using hx
        simp only
        rw [hn.2.1, hn.2.2.1, hn.2.2.2]
        simp
  have HM0 : Hid (Mid B0 B gr gm w.heap.size k st.next (rootV st) (.slice (some ⟨g, 0, none⟩) n1 c) (.slice (some ⟨gw, 0, none⟩) q cw) l (wayI st.deep) (idsOf st) n w (w.alloc (.cells #[.int .i64 n.id, .string n.con, .int .i64 n.par, .string n.role, .slice none 0 0, .slice none 0 0, .slice none 0 0] 55))) := Lib.hid (h.mid hB0 hB1 n)
  have d0 : ((d : Int) == 0) = false := by rw [beq_eq_false_iff_ne]; omega
  have hwr : IntKind.i64.wrap ((d : Int) - 1) = ((d - 1 : Nat) : Int) := by rw [IntWalk.i64_in _ (by omega)]; omega
  have hdm : d - 1 < q := by omega
  clear h hok hn hz hid hno hs hi
  go_enter Tryz.func86, Tryz.ntmps86
  go_upto_region 1 with (fail)
  generalize w.alloc (.cells #[.int .i64 n.id, .string n.con, .int .i64 n.par, .string n.role, .slice none 0 0, .slice none 0 0, .slice none 0 0] 55) = W0 at HM0 ⊢
  have x1 := HM0.out.rdc.2.1
  have x4 := HM0.out.rdc.2.2.2.2
  have xw := HWC.out _ HM0.out.np
  go_upto_region 3 with (fail)
  go_quiet (fail)
  go_upto_region 4 with (fail)
  have HM1 : Hid (Mid B0 B gr gm w.heap.size k st.next (rootV st) (.slice (some ⟨g, 0, none⟩) n1 c) (.slice (some ⟨gw, 0, none⟩) q cw) l (wayI st.deep) (idsOf st) n w (W0.drewN nq)) := Lib.hid (HM0.out.after (below_drewN (Below.refl _ _) nq))
  generalize W0.drewN nq = W1 at HM1 ⊢
  clear x1 x4 xw HM0
  have HM2 := Lib.hid HM1.out.drew
  refine wp_region_held_tail 9 (fun Y => Y.cell? ⟨g, i * 7 + 5, none⟩ = some (.slice Ka Kn Kc) ∧ Y.cell? ⟨w.heap.size, 0, none⟩ = some (.int .i64 n.id)) (by kernel_rfl) (by kernel_rfl) ?hS4 (fun hHeld => ?q4)
  case hS4 => exact ⟨(HCI.out _ HM2.out.np).c5, HM2.out.ndc.1⟩
  case q4 =>
    simp only [List.take_succ_cons, List.take_zero, List.drop_succ_cons, List.drop_zero]
    refine wpAnyH_take (i := 0) (v := (.pointer (some ⟨g, i * 7, none⟩))) rfl (by kernel_rfl) (by kernel_rfl) (by kernel_rfl) (fun _ _ _ h => h) (Or.inl ⟨by rfl, ?yr_1⟩) (by assumption) ?qr_1
    case yr_1 => (intro w hSw; (try dsimp only at hSw); go_simp)
    case qr_1 =>
      (try simp only [Act.put]); (try simp only [List.setIfInBounds_toArray])
      refine wpAnyH_take (i := 1) (v := (.pointer (some ⟨g, i * 7, none⟩))) rfl (by kernel_rfl) (by kernel_rfl) (by kernel_rfl) (fun _ _ _ h => h) (Or.inl ⟨by rfl, ?yr_2⟩) (by assumption) ?qr_2
      case yr_2 => (intro w hSw; (try dsimp only at hSw); go_simp)
      case qr_2 =>
        (try simp only [Act.put]); (try simp only [List.setIfInBounds_toArray])
        refine wpAnyH_take (i := 2) (v := (.pointer (some ⟨g, i * 7, none⟩))) rfl (by kernel_rfl) (by kernel_rfl) (by kernel_rfl) (fun _ _ _ h => h) (Or.inl ⟨by rfl, ?yr_3⟩) (by assumption) ?qr_3
        case yr_3 => (intro w hSw; (try dsimp only at hSw); go_simp)
        case qr_3 =>
          (try simp only [Act.put]); (try simp only [List.setIfInBounds_toArray])
          refine wpAnyH_take (i := 3) (v := (.pointer (some ⟨g, i * 7 + 5, none⟩))) rfl (by kernel_rfl) (by kernel_rfl) (by kernel_rfl) (fun _ _ _ h => h) (Or.inl ⟨by rfl, ?yr_4⟩) (by assumption) ?qr_4
          case yr_4 => (intro w hSw; (try dsimp only at hSw); go_simp)
          case qr_4 =>
            (try simp only [Act.put]); (try simp only [List.setIfInBounds_toArray])
            refine wpAnyH_take (i := 4) (v := (.slice Ka Kn Kc)) rfl (by kernel_rfl) (by kernel_rfl) (by kernel_rfl) (fun _ _ _ h => h) (Or.inl ⟨by rfl, ?yr_5⟩) (by assumption) ?qr_5
            case yr_5 => (intro w hSw; (try dsimp only at hSw); go_simp)
            case qr_5 =>
              (try simp only [Act.put]); (try simp only [List.setIfInBounds_toArray])
              refine wpAnyH_take (i := 5) (v := (.pointer (some ⟨w.heap.size, 0, none⟩))) rfl (by kernel_rfl) (by kernel_rfl) (by kernel_rfl) (fun _ _ _ h => h) (Or.inl ⟨by rfl, ?yr_6⟩) (by assumption) ?qr_6
              case yr_6 => (intro w hSw; (try dsimp only at hSw); go_simp)
              case qr_6 =>
                (try simp only [Act.put]); (try simp only [List.setIfInBounds_toArray])
                refine wpAnyH_take (i := 6) (v := (.int .i64 n.id)) rfl (by kernel_rfl) (by kernel_rfl) (by kernel_rfl) (fun _ _ _ h => h) (Or.inl ⟨by rfl, ?yr_7⟩) (by assumption) ?qr_7
                case yr_7 => (intro w hSw; (try dsimp only at hSw); go_simp)
                case qr_7 =>
                  (try simp only [Act.put]); (try simp only [List.setIfInBounds_toArray])
                  refine wpAnyH_ready (rs := [7]) (by kernel_rfl) (by simp) ?_
                  refine AllReadyH.cons rfl (fun K hK => ?sr_8) ?mr_8
                  case sr_8 =>
                    (refine step_mkS _ (by rfl) 3 #[.int .i64 n.id] (by go_simp) ?_; intro gq Yq hxq hbq hsq; have HRq : Hid (Row Yq gq (gq + 1) 1 (some ⟨gq, 0, none⟩) 1 1 [.int .i64 n.id]) := Lib.hid (row_blk hxq rfl (Nat.le_refl _) (by unfold maxLen; omega)); have HM2 := Lib.hid (HM2.out.after hbq); clear hxq hbq hsq)
                    refine hK.out _ _ ?kr_8 (fun hHeld => ?qr_8)
                    case kr_8 => ((try dsimp only); first | exact ⟨HC5.out, (nd_cells HNX.out).1⟩ | exact ⟨(HCI.out _ HM2.out.np).c5, HM2.out.ndc.1⟩)
                    case qr_8 =>
                      clear hK K
                      (try simp only [Act.put]); (try simp only [List.setIfInBounds_toArray])
                      refine wpAnyH_ready (rs := [8]) (by kernel_rfl) (by simp) ?_
                      refine AllReadyH.cons rfl (fun K hK => ?sr_9) ?mr_9
                      case sr_9 =>
                        ((refine step_appS (o := ⟨some 35, _, _, _, _, _⟩) _ (by rfl) (.tmp 31) (.tmp 34) _ (by rfl) B 3 i1 _ 1 8 Tryz.underlying40 hi1 hz1 hs1 hb1 rfl (by omega) (.slice Ka Kn Kc) Kn (intCells nd.kids) (by go_simp) (HGK.out _ HM2.out.np) gq (gq + 1) (some ⟨gq, 0, none⟩) 1 1 [.int .i64 n.id] (by go_simp) HRq.out (by simp [Value.oneCell']) (by unfold maxLen; omega) (by omega) HM2.out.np.hB ?_); intro Ak ck Yk hownK hgrK hnewK; have HM3 := Lib.hid (HM2.out.kid hBB HLX.out HII.out hownK hgrK hnewK); have HON2 := Lib.hid (World.ownsRow.kept HM2.out.np.own hgrK (own_own_ne HM2.out.np.own (HGK.out _ HM2.out.np) (by decide))); have HC5 := Lib.hid (nodes_cells HLX.out HON2.out HII.out).c5; have HF5 := Lib.hid (nodes_frozen HLX.out HON2.out (i * 7 + 5)); have HNX := Lib.hid (HM2.out.nb.grown hgrK (Ne.symm (own_blk_ne (HGK.out _ HM2.out.np) HM2.out.nb (by decide)))); clear hownK hgrK hnewK)
                        refine hK.out _ _ ?kr_9 (fun hHeld => ?qr_9)
                        case kr_9 => ((try dsimp only); first | exact ⟨HC5.out, (nd_cells HNX.out).1⟩ | exact ⟨(HCI.out _ HM2.out.np).c5, HM2.out.ndc.1⟩)
                        case qr_9 =>
                          clear hK K
                          (try simp only [Act.put]); (try simp only [List.setIfInBounds_toArray])
                          refine wpAnyH_done (by kernel_rfl) ?_ _
                          clear hHeld
                          show wpList _ _ _ _ _ _
                          have s1 := HC5.out
                          have s2 := HF5.out
                          go_upto_region 5 with (fail)
                          clear s1 s2 HC5 HF5 HNX HON2
                          generalize Yk.setCell ⟨g, i * 7 + 5, none⟩ (.slice Ak (Kn + 1) ck) = W4 at HM3 ⊢
                          have x0 := (HM3.out.np.cells (HLS.out Ak ck) (List.getElem?_set_self (by rw [HLX.out]; exact hilt))).c0
                          have f2 := HM3.out.nb.frozen 2
                          have x2 := HM3.out.ndc.2.2.1
                          go_upto_region 6 with (fail)
                          have HM := Lib.hid (HM3.out.par nd.id)
                          generalize W4.setCell ⟨w.heap.size, 2, none⟩ (.int .i64 nd.id) = W at HM ⊢
                          clear x0 f2 x2 HM3
                          have HMd := Lib.hid HM.out.drew
                          obtain ⟨W6, hr6, hs6, hg6⟩ := HMd.out.set.put (n := n.id) HK1.out (by omega)
                          have HR6 := Lib.hid hr6
                          have HM6 := Lib.hid (HMd.out.put hs6 hg6)
                          clear hr6 hs6 hg6
                          refine wp_region_held_tail 7 (fun Y => Y.cell? ⟨gr, 2, none⟩ = some (.map (some gm)) ∧ Y.cell? ⟨w.heap.size, 0, none⟩ = some (.int .i64 n.id)) (by kernel_rfl) (by kernel_rfl) ?hS6 (fun hHeld => ?q6)
                          case hS6 => exact ⟨HMd.out.rdc.2.2.1, HMd.out.ndc.1⟩
                          case q6 =>
                            simp only [List.take_succ_cons, List.take_zero, List.drop_succ_cons, List.drop_zero]
                            refine wpAnyH_take (i := 0) (v := (.pointer (some ⟨gr, 0, none⟩))) rfl (by kernel_rfl) (by kernel_rfl) (by kernel_rfl) (fun _ _ _ h => h) (Or.inl ⟨by rfl, ?ys_1⟩) (by assumption) ?qs_1
                            case ys_1 => (intro w hSw; (try dsimp only at hSw); go_simp)
                            case qs_1 =>
                              (try simp only [Act.put]); (try simp only [List.setIfInBounds_toArray])
                              refine wpAnyH_take (i := 1) (v := (.pointer (some ⟨gr, 0, none⟩))) rfl (by kernel_rfl) (by kernel_rfl) (by kernel_rfl) (fun _ _ _ h => h) (Or.inl ⟨by rfl, ?ys_2⟩) (by assumption) ?qs_2
                              case ys_2 => (intro w hSw; (try dsimp only at hSw); go_simp)
                              case qs_2 =>
                                (try simp only [Act.put]); (try simp only [List.setIfInBounds_toArray])
                                refine wpAnyH_take (i := 2) (v := (.pointer (some ⟨gr, 2, none⟩))) rfl (by kernel_rfl) (by kernel_rfl) (by kernel_rfl) (fun _ _ _ h => h) (Or.inl ⟨by rfl, ?ys_3⟩) (by assumption) ?qs_3
                                case ys_3 => (intro w hSw; (try dsimp only at hSw); go_simp)
                                case qs_3 =>
                                  (try simp only [Act.put]); (try simp only [List.setIfInBounds_toArray])
                                  refine wpAnyH_take (i := 3) (v := (.map (some gm))) rfl (by kernel_rfl) (by kernel_rfl) (by kernel_rfl) (fun _ _ _ h => h) (Or.inl ⟨by rfl, ?ys_4⟩) (by assumption) ?qs_4
                                  case ys_4 => (intro w hSw; (try dsimp only at hSw); go_simp)
                                  case qs_4 =>
                                    (try simp only [Act.put]); (try simp only [List.setIfInBounds_toArray])
                                    refine wpAnyH_take (i := 4) (v := (.pointer (some ⟨w.heap.size, 0, none⟩))) rfl (by kernel_rfl) (by kernel_rfl) (by kernel_rfl) (fun _ _ _ h => h) (Or.inl ⟨by rfl, ?ys_5⟩) (by assumption) ?qs_5
                                    case ys_5 => (intro w hSw; (try dsimp only at hSw); go_simp)
                                    case qs_5 =>
                                      (try simp only [Act.put]); (try simp only [List.setIfInBounds_toArray])
                                      refine wpAnyH_take (i := 5) (v := (.int .i64 n.id)) rfl (by kernel_rfl) (by kernel_rfl) (by kernel_rfl) (fun _ _ _ h => h) (Or.inl ⟨by rfl, ?ys_6⟩) (by assumption) ?qs_6
                                      case ys_6 => (intro w hSw; (try dsimp only at hSw); go_simp)
                                      case qs_6 =>
                                        (try simp only [Act.put]); (try simp only [List.setIfInBounds_toArray])
                                        refine wpAnyH_take (i := 6) (v := (.agg #[])) rfl (by kernel_rfl) (by kernel_rfl) (by kernel_rfl) (fun _ _ _ h => h) (Or.inl ⟨by rfl, ?ys_7⟩) (by assumption) ?qs_7
                                        case ys_7 => (intro w hSw; (try dsimp only at hSw); go_simp)
                                        case qs_7 =>
                                          (try simp only [Act.put]); (try simp only [List.setIfInBounds_toArray])
                                          refine wpAnyH_done (by kernel_rfl) ?_ _
                                          clear hHeld
                                          show wpList _ _ _ _ _ _
                                          refine wpList_mapS (o := ⟨none, _, _, _, _, _⟩) rfl (.tmp 46) (.tmp 48) (.tmp 49) _ rfl (by go_simp) (by go_simp) (by go_simp) HR6.out ?_
                                          (try simp only [Act.put]); (try simp only [List.setIfInBounds_toArray])
                                          go_upto_region 7 with (fail)
                                          have HM7 := Lib.hid HM6.out.drew
                                          refine wp_region_held_tail 14 (fun Y => Y.cell? ⟨gr, 4, none⟩ = some (.slice (some ⟨gw, 0, none⟩) q cw) ∧ Y.cell? ⟨gr, 1, none⟩ = some (.slice (some ⟨g, 0, none⟩) n1 c)) (by kernel_rfl) (by kernel_rfl) ?hS7 (fun hHeld => ?q7)
                                          case hS7 => exact ⟨HM7.out.rdc.2.2.2.2, HM7.out.rdc.2.1⟩
                                          case q7 =>
                                            simp only [List.take_succ_cons, List.take_zero, List.drop_succ_cons, List.drop_zero]
                                            refine wpAnyH_take (i := 0) (v := (.pointer (some ⟨gr, 0, none⟩))) rfl (by kernel_rfl) (by kernel_rfl) (by kernel_rfl) (fun _ _ _ h => h) (Or.inl ⟨by rfl, ?yt_1⟩) (by assumption) ?qt_1
                                            case yt_1 => (intro w hSw; (try dsimp only at hSw); go_simp)
                                            case qt_1 =>
                                              (try simp only [Act.put]); (try simp only [List.setIfInBounds_toArray])
                                              refine wpAnyH_take (i := 1) (v := (.pointer (some ⟨gr, 0, none⟩))) rfl (by kernel_rfl) (by kernel_rfl) (by kernel_rfl) (fun _ _ _ h => h) (Or.inl ⟨by rfl, ?yt_2⟩) (by assumption) ?qt_2
                                              case yt_2 => (intro w hSw; (try dsimp only at hSw); go_simp)
                                              case qt_2 =>
                                                (try simp only [Act.put]); (try simp only [List.setIfInBounds_toArray])
                                                refine wpAnyH_take (i := 2) (v := (.pointer (some ⟨gr, 0, none⟩))) rfl (by kernel_rfl) (by kernel_rfl) (by kernel_rfl) (fun _ _ _ h => h) (Or.inl ⟨by rfl, ?yt_3⟩) (by assumption) ?qt_3
                                                case yt_3 => (intro w hSw; (try dsimp only at hSw); go_simp)
                                                case qt_3 =>
                                                  (try simp only [Act.put]); (try simp only [List.setIfInBounds_toArray])
                                                  refine wpAnyH_take (i := 3) (v := (.pointer (some ⟨gr, 4, none⟩))) rfl (by kernel_rfl) (by kernel_rfl) (by kernel_rfl) (fun _ _ _ h => h) (Or.inl ⟨by rfl, ?yt_4⟩) (by assumption) ?qt_4
                                                  case yt_4 => (intro w hSw; (try dsimp only at hSw); go_simp)
                                                  case qt_4 =>
                                                    (try simp only [Act.put]); (try simp only [List.setIfInBounds_toArray])
                                                    refine wpAnyH_take (i := 4) (v := (.slice (some ⟨gw, 0, none⟩) q cw)) rfl (by kernel_rfl) (by kernel_rfl) (by kernel_rfl) (fun _ _ _ h => h) (Or.inl ⟨by rfl, ?yt_5⟩) (by assumption) ?qt_5
                                                    case yt_5 => (intro w hSw; (try dsimp only at hSw); go_simp)
                                                    case qt_5 =>
                                                      (try simp only [Act.put]); (try simp only [List.setIfInBounds_toArray])
                                                      refine wpAnyH_take (i := 5) (v := (.int .i64 d)) rfl (by kernel_rfl) (by kernel_rfl) (by kernel_rfl) (fun _ _ _ h => h) (Or.inl ⟨by rfl, ?yt_6⟩) (by assumption) ?qt_6
                                                      case yt_6 => (intro w hSw; (try dsimp only at hSw); go_simp)
                                                      case qt_6 =>
                                                        (try simp only [Act.put]); (try simp only [List.setIfInBounds_toArray])
                                                        refine wpAnyH_take (i := 6) (v := (.slice (some ⟨gw, 0, none⟩) d cw)) rfl (by kernel_rfl) (by kernel_rfl) (by kernel_rfl) (fun _ _ _ h => h) (Or.inl ⟨by rfl, ?yt_7⟩) (by assumption) ?qt_7
                                                        case yt_7 => (intro w hSw; (try dsimp only at hSw); go_simp)
                                                        case qt_7 =>
                                                          (try simp only [Act.put]); (try simp only [List.setIfInBounds_toArray])
                                                          refine wpAnyH_take (i := 7) (v := (.pointer (some ⟨gr, 0, none⟩))) rfl (by kernel_rfl) (by kernel_rfl) (by kernel_rfl) (fun _ _ _ h => h) (Or.inl ⟨by rfl, ?yt_8⟩) (by assumption) ?qt_8
                                                          case yt_8 => (intro w hSw; (try dsimp only at hSw); go_simp)
                                                          case qt_8 =>
                                                            (try simp only [Act.put]); (try simp only [List.setIfInBounds_toArray])
                                                            refine wpAnyH_take (i := 8) (v := (.pointer (some ⟨gr, 0, none⟩))) rfl (by kernel_rfl) (by kernel_rfl) (by kernel_rfl) (fun _ _ _ h => h) (Or.inl ⟨by rfl, ?yt_9⟩) (by assumption) ?qt_9
                                                            case yt_9 => (intro w hSw; (try dsimp only at hSw); go_simp)
                                                            case qt_9 =>
                                                              (try simp only [Act.put]); (try simp only [List.setIfInBounds_toArray])
                                                              refine wpAnyH_take (i := 9) (v := (.pointer (some ⟨gr, 1, none⟩))) rfl (by kernel_rfl) (by kernel_rfl) (by kernel_rfl) (fun _ _ _ h => h) (Or.inl ⟨by rfl, ?yt_10⟩) (by assumption) ?qt_10
                                                              case yt_10 => (intro w hSw; (try dsimp only at hSw); go_simp)
                                                              case qt_10 =>
                                                                (try simp only [Act.put]); (try simp only [List.setIfInBounds_toArray])
                                                                refine wpAnyH_take (i := 10) (v := (.slice (some ⟨g, 0, none⟩) n1 c)) rfl (by kernel_rfl) (by kernel_rfl) (by kernel_rfl) (fun _ _ _ h => h) (Or.inl ⟨by rfl, ?yt_11⟩) (by assumption) ?qt_11
                                                                case yt_11 => (intro w hSw; (try dsimp only at hSw); go_simp)
                                                                case qt_11 =>
                                                                  (try simp only [Act.put]); (try simp only [List.setIfInBounds_toArray])
                                                                  refine wpAnyH_take (i := 11) (v := (.int .i64 n1)) rfl (by kernel_rfl) (by kernel_rfl) (by kernel_rfl) (fun _ _ _ h => h) (Or.inl ⟨by rfl, ?yt_12⟩) (by assumption) ?qt_12
                                                                  case yt_12 => (intro w hSw; (try dsimp only at hSw); go_simp)
                                                                  case qt_12 =>
                                                                    (try simp only [Act.put]); (try simp only [List.setIfInBounds_toArray])
                                                                    refine wpAnyH_ready (rs := [12]) (by kernel_rfl) (by simp) ?_
                                                                    refine AllReadyH.cons rfl (fun K hK => ?st_13) ?mt_13
                                                                    case st_13 =>
                                                                      (refine step_mkS _ (by rfl) 3 #[.int .i64 n1] (by go_simp) ?_; intro gq Yq hxq hbq hsq; have HRq : Hid (Row Yq gq (gq + 1) 1 (some ⟨gq, 0, none⟩) 1 1 [.int .i64 n1]) := Lib.hid (row_blk hxq rfl (Nat.le_refl _) (by unfold maxLen; omega)); have HM7 := Lib.hid (HM7.out.after hbq); clear hxq hbq hsq)
                                                                      refine hK.out _ _ ?kt_13 (fun hHeld => ?qt_13)
                                                                      case kt_13 => ((try dsimp only); first | exact ⟨(rd_cells HBX.out).2.2.2.2, (rd_cells HBX.out).2.1⟩ | exact ⟨HM7.out.rdc.2.2.2.2, HM7.out.rdc.2.1⟩)
                                                                      case qt_13 =>
                                                                        clear hK K
                                                                        (try simp only [Act.put]); (try simp only [List.setIfInBounds_toArray])
                                                                        refine wpAnyH_ready (rs := [13]) (by kernel_rfl) (by simp) ?_
                                                                        refine AllReadyH.cons rfl (fun K hK => ?st_14) ?mt_14
                                                                        case st_14 =>
                                                                          ((refine step_appS (o := ⟨some 63, _, _, _, _, _⟩) _ (by rfl) (.tmp 56) (.tmp 62) _ (by rfl) B 3 i1 _ 1 8 Tryz.underlying40 hi1 hz1 hs1 hb1 rfl (by omega) (.slice (some ⟨gw, 0, none⟩) d cw) d (intCells ((wayI st.deep).take d)) (by go_simp) (HOC.out _ HM7.out.np) gq (gq + 1) (some ⟨gq, 0, none⟩) 1 1 [.int .i64 n1] (by go_simp) HRq.out (by simp [Value.oneCell']) (by unfold maxLen; omega) (by omega) HM7.out.np.hB ?_); intro A' c' Yn hownN hgrN hnewN; have HM8 := Lib.hid (HM7.out.wayA (vw' := .slice A' (d + 1) c') (ws' := ((wayI st.deep).take d ++ [(n1 : Int)])) hBB (HWO.out _ _ hownN) hgrN hnewN); have HBX := Lib.hid (HM7.out.bx.grown (show World.grownBy _ Yn (Value.ownBlock (.slice (some ⟨gw, 0, none⟩) q cw)) from hgrN) (Ne.symm (own_blk_ne HM7.out.np.way HM7.out.bx (by decide)))); clear hownN hgrN hnewN)
                                                                          refine hK.out _ _ ?kt_14 (fun hHeld => ?qt_14)
                                                                          case kt_14 => ((try dsimp only); first | exact ⟨(rd_cells HBX.out).2.2.2.2, (rd_cells HBX.out).2.1⟩ | exact ⟨HM7.out.rdc.2.2.2.2, HM7.out.rdc.2.1⟩)
                                                                          case qt_14 =>
                                                                            clear hK K
                                                                            (try simp only [Act.put]); (try simp only [List.setIfInBounds_toArray])
                                                                            refine wpAnyH_done (by kernel_rfl) ?_ _
                                                                            clear hHeld
                                                                            show wpList _ _ _ _ _ _
                                                                            have s1 := (rd_cells HBX.out).2.2.2.2
                                                                            have s2 := HBX.out.frozen 4
                                                                            go_upto_region 8 with (fail)
                                                                            clear s1 s2
                                                                            clear HBX
                                                                            generalize Yn.setCell ⟨gr, 4, none⟩ (.slice A' (d + 1) c') = W8 at HM8 ⊢
                                                                            have HM9 := Lib.hid HM8.out.drew
                                                                            refine wp_region_held_tail 8 (fun Y => Y.cell? ⟨gr, 1, none⟩ = some (.slice (some ⟨g, 0, none⟩) n1 c) ∧ Y.cell? ⟨w.heap.size, 0, none⟩ = some (.int .i64 n.id) ∧ Y.cell? ⟨w.heap.size, 1, none⟩ = some (.string n.con) ∧ Y.cell? ⟨w.heap.size, 2, none⟩ = some (.int .i64 nd.id) ∧ Y.cell? ⟨w.heap.size, 3, none⟩ = some (.string n.role) ∧ Y.cell? ⟨w.heap.size, 4, none⟩ = some (.slice none 0 0) ∧ Y.cell? ⟨w.heap.size, 5, none⟩ = some (.slice none 0 0) ∧ Y.cell? ⟨w.heap.size, 6, none⟩ = some (.slice none 0 0)) (by kernel_rfl) (by kernel_rfl) ?hS8 (fun hHeld => ?q8)
                                                                            case hS8 => exact ⟨HM9.out.rdc.2.1, HM9.out.ndc⟩
                                                                            case q8 =>
                                                                              simp only [List.take_succ_cons, List.take_zero, List.drop_succ_cons, List.drop_zero]
                                                                              refine wpAnyH_take (i := 0) (v := (.pointer (some ⟨gr, 0, none⟩))) rfl (by kernel_rfl) (by kernel_rfl) (by kernel_rfl) (fun _ _ _ h => h) (Or.inl ⟨by rfl, ?yu_1⟩) (by assumption) ?qu_1
                                                                              case yu_1 => (intro w hSw; (try dsimp only at hSw); go_simp)
                                                                              case qu_1 =>
                                                                                (try simp only [Act.put]); (try simp only [List.setIfInBounds_toArray])
                                                                                refine wpAnyH_take (i := 1) (v := (.pointer (some ⟨gr, 0, none⟩))) rfl (by kernel_rfl) (by kernel_rfl) (by kernel_rfl) (fun _ _ _ h => h) (Or.inl ⟨by rfl, ?yu_2⟩) (by assumption) ?qu_2
                                                                                case yu_2 => (intro w hSw; (try dsimp only at hSw); go_simp)
                                                                                case qu_2 =>
                                                                                  (try simp only [Act.put]); (try simp only [List.setIfInBounds_toArray])
                                                                                  refine wpAnyH_take (i := 2) (v := (.pointer (some ⟨gr, 0, none⟩))) rfl (by kernel_rfl) (by kernel_rfl) (by kernel_rfl) (fun _ _ _ h => h) (Or.inl ⟨by rfl, ?yu_3⟩) (by assumption) ?qu_3
                                                                                  case yu_3 => (intro w hSw; (try dsimp only at hSw); go_simp)
                                                                                  case qu_3 =>
                                                                                    (try simp only [Act.put]); (try simp only [List.setIfInBounds_toArray])
                                                                                    refine wpAnyH_take (i := 3) (v := (.pointer (some ⟨gr, 1, none⟩))) rfl (by kernel_rfl) (by kernel_rfl) (by kernel_rfl) (fun _ _ _ h => h) (Or.inl ⟨by rfl, ?yu_4⟩) (by assumption) ?qu_4
                                                                                    case yu_4 => (intro w hSw; (try dsimp only at hSw); go_simp)
                                                                                    case qu_4 =>
                                                                                      (try simp only [Act.put]); (try simp only [List.setIfInBounds_toArray])
                                                                                      refine wpAnyH_take (i := 4) (v := (.slice (some ⟨g, 0, none⟩) n1 c)) rfl (by kernel_rfl) (by kernel_rfl) (by kernel_rfl) (fun _ _ _ h => h) (Or.inl ⟨by rfl, ?yu_5⟩) (by assumption) ?qu_5
                                                                                      case yu_5 => (intro w hSw; (try dsimp only at hSw); go_simp)
                                                                                      case qu_5 =>
                                                                                        (try simp only [Act.put]); (try simp only [List.setIfInBounds_toArray])
                                                                                        refine wpAnyH_take (i := 5) (v := (.agg #[.int .i64 n.id, .string n.con, .int .i64 nd.id, .string n.role, .slice none 0 0, .slice none 0 0, .slice none 0 0])) rfl (by kernel_rfl) (by kernel_rfl) (by kernel_rfl) (fun _ _ _ h => h) (Or.inl ⟨by rfl, ?yu_6⟩) (by assumption) ?qu_6
                                                                                        case yu_6 => (intro w hSw; (try dsimp only at hSw); go_simp)
                                                                                        case qu_6 =>
                                                                                          (try simp only [Act.put]); (try simp only [List.setIfInBounds_toArray])
                                                                                          refine wpAnyH_ready (rs := [6]) (by kernel_rfl) (by simp) ?_
                                                                                          refine AllReadyH.cons rfl (fun K hK => ?su_7) ?mu_7
                                                                                          case su_7 =>
                                                                                            (refine step_mkS _ (by rfl) 55 #[.int .i64 n.id, .string n.con, .int .i64 nd.id, .string n.role, .slice none 0 0, .slice none 0 0, .slice none 0 0] (by go_simp) ?_; intro gp Yp hxp hbp hsp; have HRp : Hid (Row Yp gp (gp + 1) 7 (some ⟨gp, 0, none⟩) 1 1 [.int .i64 n.id, .string n.con, .int .i64 nd.id, .string n.role, .slice none 0 0, .slice none 0 0, .slice none 0 0]) := Lib.hid (row_blk hxp rfl (Nat.le_refl _) (by unfold maxLen; omega)); have HM9 := Lib.hid (HM9.out.after hbp); clear hxp hbp hsp)
                                                                                            refine hK.out _ _ ?ku_7 (fun hHeld => ?qu_7)
                                                                                            case ku_7 => ((try dsimp only); first | exact ⟨(rd_cells HBX.out).2.1, nd_cells HNX.out⟩ | exact ⟨HM9.out.rdc.2.1, HM9.out.ndc⟩)
                                                                                            case qu_7 =>
                                                                                              clear hK K
                                                                                              (try simp only [Act.put]); (try simp only [List.setIfInBounds_toArray])
                                                                                              refine wpAnyH_ready (rs := [7]) (by kernel_rfl) (by simp) ?_
                                                                                              refine AllReadyH.cons rfl (fun K hK => ?su_8) ?mu_8
                                                                                              case su_8 =>
                                                                                                ((refine step_appS (o := ⟨some 73, _, _, _, _, _⟩) _ (by rfl) (.tmp 70) (.tmp 72) _ (by rfl) B 55 i2 _ 7 120 Tryz.underlying23 hi2 hz2 hs2 hb2 rfl (by omega) (.slice (some ⟨g, 0, none⟩) n1 c) n1 (allCells (l.set i ({ nd with kids := nd.kids ++ [n.id] }, ⟨P, ⟨Ak, Kn + 1, ck⟩, R⟩))) (by go_simp) (HON.out Ak ck _ HM9.out.np) gp (gp + 1) (some ⟨gp, 0, none⟩) 1 1 [.int .i64 n.id, .string n.con, .int .i64 nd.id, .string n.role, .slice none 0 0, .slice none 0 0, .slice none 0 0] (by go_simp) HRp.out (by simp [Value.oneCell']) (by unfold maxLen; omega) (by omega) HM9.out.np.hB ?_); intro Az cz Yz hownZ hgrZ hnewZ; have HME := Lib.hid (HM9.out.node hBB HNN.out.1 HNN.out.2.1 HNN.out.2.2 HSZ.out (v' := .slice Az (n1 + 1) cz) (HOM.out Ak ck _ _ hownZ) hgrZ); have HBX := Lib.hid (HM9.out.bx.grown hgrZ (Ne.symm (own_blk_ne HM9.out.np.own HM9.out.bx (by decide)))); have HNX := Lib.hid (HM9.out.nb.grown hgrZ (Ne.symm HM9.out.gv)); clear hownZ hgrZ hnewZ)
                                                                                                refine hK.out _ _ ?ku_8 (fun hHeld => ?qu_8)
                                                                                                case ku_8 => ((try dsimp only); first | exact ⟨(rd_cells HBX.out).2.1, nd_cells HNX.out⟩ | exact ⟨HM9.out.rdc.2.1, HM9.out.ndc⟩)
                                                                                                case qu_8 =>
                                                                                                  clear hK K
                                                                                                  (try simp only [Act.put]); (try simp only [List.setIfInBounds_toArray])
                                                                                                  refine wpAnyH_done (by kernel_rfl) ?_ _
                                                                                                  clear hHeld
                                                                                                  show wpList _ _ _ _ _ _
                                                                                                  have s1 := (rd_cells HBX.out).2.1
                                                                                                  have s2 := HBX.out.frozen 1
                                                                                                  go_wp2_with fail
                                                                                                  go_end0
                                                                                                  exact HFIN.out Ak ck _ _ _ HME.out
                                                                                              case mu_8 =>
                                                                                                exact AllReadyH.nil
                                                                                          case mu_7 =>
                                                                                            exact AllReadyH.nil
                                                                        case mt_14 =>
                                                                          exact AllReadyH.nil
                                                                    case mt_13 =>
                                                                      exact AllReadyH.nil
                      case mr_9 =>
                        exact AllReadyH.nil
                  case mr_8 =>
                    exact AllReadyH.nil
end Go.Proofs.YtjjlofaejpnnnaaGreatDoor

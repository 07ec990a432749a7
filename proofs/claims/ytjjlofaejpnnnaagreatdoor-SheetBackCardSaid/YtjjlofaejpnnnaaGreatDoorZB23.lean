/-
  WALKS over package sheet: prop.
-/
import Derived.Test.YtjjlofaejpnnnaaGreatDoorZB22
namespace Go.Proofs.YtjjlofaejpnnnaaGreatDoor
open Go Go.RowKit
set_option linter.unusedVariables false
theorem wpList_appS {P : Program} (w : World) {ops : Array Oper} {rest : List Oper} {o : Oper} {a : Act} {Q : Exit → Act → World → Prop} (hgd : o.guard = none) (s x : Operand) (t : TypeId)
    (ho : o.op = .call { callee := .builtin .append, args := #[s, x], argTypes := #[t, t] })
    (base : Nat) (e : TypeId) (i : TypeInfo) (z : Value) (size bytes : Nat) (ht : P.underlying t = some (.slice e)) (hi : P.info? e = some i) (hz : i.zero = some z)
    (hsize : i.size = size) (hby : i.bytes = bytes) (hzs : z.cells.size = size) (hsz : 0 < size)
    (v : Value) (n : Nat) (xs : List Value) (hs : a.eval s = v) (hown : w.ownsRow base e size v n xs)
    (lo hi' : Nat) (A : Option Addr) (m c : Nat) (news : List Value) (hx : a.eval x = .slice A m c) (hr : Row w lo hi' size A m c news) (h1 : ∀ u ∈ news, u.oneCell' = true)
    (h63 : n + m ≤ maxLen) (hbytes : (n + m) * bytes ≤ 140737488355328) (hbase : base ≤ w.heap.size)
    (h : ∀ A' c' w', w'.ownsRow base e size (.slice A' (n + m) c') (n + m) (xs ++ news) → w.grownBy w' v.ownBlock → ((Value.slice A' (n + m) c').ownBlock = v.ownBlock ∨ (Value.slice A' (n + m) c').ownBlock = some w.heap.size) → wpList P ops Q rest (a.put o.dst (.slice A' (n + m) c')) w') : wpList P ops Q (o :: rest) a w :=
  wpList_app w hgd s x t ho base e i z size bytes ht hi hz hsize hby hzs hsz v n xs hs hown lo hi' A m c news hx hr h1 h63 hbytes hbase fun v' w' h2 h3 h4 => by
    rcases h2.2 with ⟨rfl, hn⟩ | ⟨g, cap, cur, rfl, _⟩
    · have := h none 0 w' (by rw [hn] at h2 ⊢; exact h2) h3 (by rw [hn]; exact h4)
      rw [hn] at this
      exact this
    · exact h _ _ w' h2 h3 h4
theorem NP.keptN {B B' n s : Nat} {v vw r : Value} {l : List (Nd × Leaf)} {ws : List Int} {W W' : World} {e : TypeId} {xs : List Value} (h : NP B v vw l ws W) (hk : W.ownsRow B' e s r n xs) (hne : 55 ≠ e) (hg : W.grownBy W' r.ownBlock) : OwnN W' B v l :=
  World.ownsRow.kept h.own hg (own_own_ne h.own hk hne)
theorem word_yes (s : ByteArray) (w : World) (hs : s.size ≤ 140737488355328) (h : wordL s.data.toList = true) : Calls Tryz.prog 83 #[.string s] w fun e w' => e = .returned (.tuple #[.string s, .bool true]) ∧ Below w.heap.size w w' := by
  have := wordS_any s w hs
  unfold WordP at this
  rw [h, if_pos rfl] at this
  exact this
theorem word_no (s : ByteArray) (w : World) (hs : s.size ≤ 140737488355328) (h : wordL s.data.toList = false) : Calls Tryz.prog 83 #[.string s] w fun e w' => e = .returned (.tuple #[.string ⟨#[]⟩, .bool false]) ∧ Below w.heap.size w w' := by
  have := wordS_any s w hs
  unfold WordP at this
  rw [h, if_neg (by simp)] at this
  exact this
theorem bytesOf_is (s : ByteArray) : bytesOf s.data.toList = s := ba_listS s
theorem less_iff (a b : ByteArray) : (Op.bytesLess a.toList b.toList || a.toList == b.toList) = false ↔ b.data.toList < a.data.toList := by
  rw [leq_not, Go.Proofs.bytesLess_eq]
  simp only [Bool.not_eq_false', decide_eq_true_eq]
  rw [Lib.toList_data, Lib.toList_data]
/-- what a property's line comes to -/
structure PropC (st : RS) (nd : Nd) (a b : ByteArray) (r : List UInt8 × Int × Int) : Prop where
  e0 : r.2.2 = 0
  e1 : r.2.1 = (b.size : Int)
  e2 : r.1.length ≤ 4096
  e3 : nd.refs = []
  e4 : ∀ p ∈ nd.props.getLast?, p.1.data.toList < a.data.toList
theorem hasV_some {st : RS} {nd : Nd} {a b : ByteArray} (h : PropC st nd a b (unq b 0)) : hasV st nd a.data.toList b.data.toList = some (lastV st { nd with props := nd.props ++ [(a, bytesOf (unq b 0).1)] }) := by
  unfold hasV
  simp only [bytesOf_is]
  rw [if_pos ⟨h.e0, by rw [toList_eq]; exact h.e1, h.e2, h.e3, h.e4⟩]
theorem hasV_none {st : RS} {nd : Nd} {a b : ByteArray} (h : ¬ PropC st nd a b (unq b 0)) : hasV st nd a.data.toList b.data.toList = none := by
  unfold hasV
  simp only [bytesOf_is]
  rw [if_neg fun hc => h ⟨hc.1, by have := hc.2.1; rwa [toList_eq] at this, hc.2.2.1, hc.2.2.2.1, hc.2.2.2.2⟩]
theorem last_nd {l : List (ByteArray × ByteArray)} {n : Nat} (h : l.length = n) (h0 : 0 < n) : ∃ p, l[n - 1]? = some p ∧ l.getLast? = some p := by
  subst h
  refine ⟨l[l.length - 1]'(by omega), List.getElem?_eq_getElem _, ?_⟩
  rw [List.getLast?_eq_getElem?]
  exact List.getElem?_eq_getElem _
theorem last_ndR {l : List (ByteArray × Int)} {n : Nat} (h : l.length = n) (h0 : 0 < n) : ∃ p, l[n - 1]? = some p ∧ l.getLast? = some p := by
  subst h
  refine ⟨l[l.length - 1]'(by omega), List.getElem?_eq_getElem _, ?_⟩
  rw [List.getLast?_eq_getElem?]
  exact List.getElem?_eq_getElem _
/-- a line that is one of the last node's lines: what it turns -/
theorem RIn.lastSet {B gr gm k n c g : Nat} {vw : Value} {l : List (Nd × Leaf)} {st : RS} {w w' : World} {nd nd' : Nd} {L' : Leaf} (h : RIn B gr gm k (.slice (some ⟨g, 0, none⟩) n c) vw l st w) (h0 : st.next ≠ 0) (hl : st.nds.getLast? = some nd) (hi : nd'.id = nd.id) (hn : st.nds.length = n)
    (hbx : Blk w' gr 45 (rdBox st.next (.slice (some ⟨g, 0, none⟩) n c) gm (rootV st) vw)) (hst : SeenIs w' gm k (idsOf st)) (hnp : NP B (.slice (some ⟨g, 0, none⟩) n c) vw (l.set (n - 1) (nd', L')) (wayI st.deep) w')
    (hln : nd'.props.length ≤ k + 1 ∧ nd'.kids.length ≤ k + 1 ∧ nd'.refs.length ≤ k + 1) (hk : k + 1 ≤ 4194304) : RIn B gr gm (k + 1) (.slice (some ⟨g, 0, none⟩) n c) vw (l.set (n - 1) (nd', L')) (lastV st nd') w' := by
  have hR := (h.ok h0).last hl hi
  refine ⟨?_, hnp, ?_, ?_, fun _ => hR, fun e => absurd e h0, ?_, h.lr, h.lm, hk⟩
  · rw [rootV_last hl hi]
    exact hbx
  · have := hst.mono (Nat.le_succ k)
    rw [show (lastV st nd').nds.map (·.id) = idsOf st from lastV_ids hl hi]
    exact this
  · rw [List.map_set, h.nds, lastV_set hl, hn]
  · intro x hx
    rw [lastV_set hl] at hx
    rcases List.mem_or_eq_of_mem_set hx with hx | rfl
    · have := h.ln x hx; omega
    · exact hln
theorem RIn.midE {B gr gm k : Nat} {v vw : Value} {l : List (Nd × Leaf)} {st : RS} {w : World} (h : RIn B gr gm k v vw l st w) {B0 : Nat} (h0 : B0 ≤ w.heap.size) {Y : World} (hb : Below w.heap.size w Y) : MidE B0 B gr gm k st.next (rootV st) v vw l (wayI st.deep) (idsOf st) w Y :=
  ⟨h.box.after hb, h.np.after hb, h.set.after hb, hb.mono h0⟩
section
variable {B0 B gr gm k : Nat} {next root : Int} {v vw : Value} {l : List (Nd × Leaf)} {ws ids : List Int} {w W W' : World}
theorem MidE.after (h : MidE B0 B gr gm k next root v vw l ws ids w W) (hb : Below W.heap.size W W') (hs : B0 ≤ gr := by assumption) : MidE B0 B gr gm k next root v vw l ws ids w W' :=
  ⟨h.bx.after hb, h.np.after hb, h.set.after hb, h.bel.trans (hb.mono (Nat.le_trans hs (Nat.le_of_lt h.bx.lt)))⟩
theorem MidE.prop {n c g i : Nat} {nd : Nd} {P K R : Sl} {Ap : Option Addr} {cp : Nat} {y : ByteArray × ByteArray} (h : MidE B0 B gr gm k next root (.slice (some ⟨g, 0, none⟩) n c) vw l ws ids w W) (l0 : B0 ≤ gr) (l1 : B0 ≤ gm) (l2 : gr < B) (l3 : gm < B) (hl : l.length = n) (hi : l[i]? = some (nd, ⟨P, K, R⟩)) (hy : y.1.size ≤ maxLen ∧ y.2.size ≤ maxLen)
    (ho : W'.ownsRow B 60 2 (.slice Ap (P.n + 1) cp) (P.n + 1) (propCells nd.props ++ [.string y.1, .string y.2])) (hg : W.grownBy W' (Value.slice P.A P.n P.c).ownBlock) (hnew : (Value.slice Ap (P.n + 1) cp).ownBlock = (Value.slice P.A P.n P.c).ownBlock ∨ (Value.slice Ap (P.n + 1) cp).ownBlock = some W.heap.size) :
    MidE B0 B gr gm k next root (.slice (some ⟨g, 0, none⟩) n c) vw (l.set i ({ nd with props := nd.props ++ [y] }, ⟨⟨Ap, P.n + 1, cp⟩, K, R⟩)) ws ids w (W'.setCell ⟨g, i * 7 + 4, none⟩ (.slice Ap (P.n + 1) cp)) := by
  have hkr : W.ownsRow B 60 2 (.slice P.A P.n P.c) P.n (propCells nd.props) := (h.np.leaf _ (List.mem_of_getElem? hi)).p
  have hbx := h.bx.grown hg (Ne.symm (own_blk_ne hkr h.bx (by decide)))
  have hst := h.set.grown hkr hg
  have hgB : B ≤ g := (World.ownsRow.lt h.np.own g rfl).1
  have hs : B0 ≤ W.heap.size := Nat.le_trans l0 (Nat.le_of_lt h.bx.lt)
  exact ⟨hbx.far (p := ⟨g, _, none⟩) (by show gr ≠ g; omega) _, h.np.prop hl hi hy ho hg hnew, hst.set (p := ⟨g, _, none⟩) (by show gm ≠ g; omega) _,
    (below_own h.bel hs hg fun x hx => by have := (World.ownsRow.lt hkr x hx).1; omega).setCell (p := ⟨g, _, none⟩) (by show B0 ≤ g; omega) _⟩
theorem MidE.ref {n c g i : Nat} {nd : Nd} {P K R : Sl} {Ar : Option Addr} {cr : Nat} {y : ByteArray × Int} (h : MidE B0 B gr gm k next root (.slice (some ⟨g, 0, none⟩) n c) vw l ws ids w W) (l0 : B0 ≤ gr) (l1 : B0 ≤ gm) (l2 : gr < B) (l3 : gm < B) (hl : l.length = n) (hi : l[i]? = some (nd, ⟨P, K, R⟩)) (hy : y.1.size ≤ maxLen)
    (ho : W'.ownsRow B 62 2 (.slice Ar (R.n + 1) cr) (R.n + 1) (refCells nd.refs ++ [.string y.1, .int .i64 y.2])) (hg : W.grownBy W' (Value.slice R.A R.n R.c).ownBlock) (hnew : (Value.slice Ar (R.n + 1) cr).ownBlock = (Value.slice R.A R.n R.c).ownBlock ∨ (Value.slice Ar (R.n + 1) cr).ownBlock = some W.heap.size) :
    MidE B0 B gr gm k next root (.slice (some ⟨g, 0, none⟩) n c) vw (l.set i ({ nd with refs := nd.refs ++ [y] }, ⟨P, K, ⟨Ar, R.n + 1, cr⟩⟩)) ws ids w (W'.setCell ⟨g, i * 7 + 6, none⟩ (.slice Ar (R.n + 1) cr)) := by
  have hkr : W.ownsRow B 62 2 (.slice R.A R.n R.c) R.n (refCells nd.refs) := (h.np.leaf _ (List.mem_of_getElem? hi)).r
  have hbx := h.bx.grown hg (Ne.symm (own_blk_ne hkr h.bx (by decide)))
  have hst := h.set.grown hkr hg
  have hgB : B ≤ g := (World.ownsRow.lt h.np.own g rfl).1
  have hs : B0 ≤ W.heap.size := Nat.le_trans l0 (Nat.le_of_lt h.bx.lt)
  exact ⟨hbx.far (p := ⟨g, _, none⟩) (by show gr ≠ g; omega) _, h.np.ref hl hi hy ho hg hnew, hst.set (p := ⟨g, _, none⟩) (by show gm ≠ g; omega) _,
    (below_own h.bel hs hg fun x hx => by have := (World.ownsRow.lt hkr x hx).1; omega).setCell (p := ⟨g, _, none⟩) (by show B0 ≤ g; omega) _⟩
end
set_option maxRecDepth 20000 in
set_option maxHeartbeats 6400000 in
theorem prop_last (w : World) (B0 B gr gm k n c g : Nat) (vw : Value) (l : List (Nd × Leaf)) (st : RS) (h : RIn B gr gm k (.slice (some ⟨g, 0, none⟩) n c) vw l st w) (h0 : st.next ≠ 0) (hB0 : B0 ≤ gr) (hB1 : B0 ≤ gm) (hn : st.nds.length = n) (hn0 : 0 < n)
    (nd : Nd) (K : Sl) (Pa Ra : Option Addr) (Pn Pc Rn Rc : Nat) (hl : st.nds.getLast? = some nd) (hi : l[n - 1]? = some (nd, ⟨⟨Pa, Pn, Pc⟩, K, ⟨Ra, Rn, Rc⟩⟩)) (d : Nat) (hd : d = st.deep.getLastD 0) (s : ByteArray) (hs : s.size ≤ 1048576) (hk : k + 1 ≤ 4194304) :
    Calls Tryz.prog 44 #[.pointer (some ⟨gr, 0, none⟩), .int .i64 d, .string s] w (LineQ B0 B gr gm k (propP st d s.data.toList) w) := by
  have H := Lib.hid h
  have HL := Lib.hid (last_yes w B gr gm k g n c vw l st h hn hn0 d hd)
  have HPV : Hid (propP st d s.data.toList = if wordL (cutA 61 s.data.toList) = true then hasV st nd (cutA 61 s.data.toList) (cutB 61 s.data.toList) else none) := Lib.hid (by
    unfold propP lastNd
    rw [if_pos hd, hl]; rfl)
  have hgB : B ≤ g := (World.ownsRow.lt h.np.own g rfl).1
  have hgw : g < w.heap.size := (World.ownsRow.lt h.np.own g rfl).2
  have hBw : B0 ≤ w.heap.size := Nat.le_trans hB0 (Nat.le_of_lt h.box.lt)
  have hlrm : gr < B ∧ gm < B := ⟨h.lr, h.lm⟩
  have HLX : Hid (l.length = n) := Lib.hid (by rw [h.len]; exact hn)
  have hlf := h.np.leaf _ (List.mem_of_getElem? hi)
  have HPN : Hid (Pn = nd.props.length ∧ Rn = nd.refs.length ∧ Pn ≤ k) := Lib.hid ⟨hlf.pn, hlf.rn, by have := hlf.pn; have h2 := (h.ln nd (List.mem_of_getElem? (last_get hl).2)).1; simp only at this; omega⟩
  have hpk : Pn ≤ 4194304 := by have := HPN.out.2.2; omega
  have HI := Lib.hid hi
  have HCE : Hid (∀ Y, Below w.heap.size w Y → NodeAt Y g ((n - 1) * 7) nd ⟨⟨Pa, Pn, Pc⟩, K, ⟨Ra, Rn, Rc⟩⟩) := Lib.hid fun Y hY => (h.np.after hY).cells HLX.out hi
  have HPR : Hid (∀ Y, Below w.heap.size w Y → Y.ownsRow B 60 2 (.slice Pa Pn Pc) Pn (propCells nd.props)) := Lib.hid fun Y hY => ((h.np.after hY).leaf _ (List.mem_of_getElem? hi)).p
  have HOX : Hid (∀ (X : World) {vw : Value} {ws : List Int}, NP B (.slice (some ⟨g, 0, none⟩) n c) vw l ws X → X.ownsRow B 60 2 (.slice Pa Pn Pc) Pn (propCells nd.props)) := Lib.hid fun X vw ws hX => (hX.leaf _ (List.mem_of_getElem? hi)).p
  have HMID : Hid (∀ Y, Below w.heap.size w Y → MidE B0 B gr gm k st.next (rootV st) (.slice (some ⟨g, 0, none⟩) n c) vw l (wayI st.deep) (idsOf st) w Y) := Lib.hid fun Y hY => h.midE hBw hY
  have HFIN0 : Hid (∀ (T a : ByteArray) (Az : Option Addr) (cz : Nat) (W : World), MidE B0 B gr gm k st.next (rootV st) (.slice (some ⟨g, 0, none⟩) n c) vw (l.set (n - 1) ({ nd with props := nd.props ++ [(a, T)] }, ⟨⟨Az, Pn + 1, cz⟩, K, ⟨Ra, Rn, Rc⟩⟩)) (wayI st.deep) (idsOf st) w W → RIn B gr gm (k + 1) (.slice (some ⟨g, 0, none⟩) n c) vw (l.set (n - 1) ({ nd with props := nd.props ++ [(a, T)] }, ⟨⟨Az, Pn + 1, cz⟩, K, ⟨Ra, Rn, Rc⟩⟩)) (lastV st { nd with props := nd.props ++ [(a, T)] }) W) := Lib.hid fun T a Az cz W hE => by
    have h2 := h.ln nd (List.mem_of_getElem? (last_get hl).2)
    exact h.lastSet h0 hl rfl hn hE.bx hE.set hE.np (by simp only [List.length_append, List.length_singleton]; omega) hk
  obtain ⟨i1, hi1, hz1, hs1, hb1⟩ := info_parts propInfo
  clear h hlf hl hn hd
  by_cases hR : Rn = 0
  · have HRE : Hid (nd.refs = []) := Lib.hid (List.eq_nil_of_length_eq_zero (by have := HPN.out.2.1; omega))
    have hR0 : ¬ (0 : Int) < (Rn : Int) := by omega
    clear hR
    by_cases hP : Pn = 0
    · have HLT0 : Hid (∀ a : ByteArray, ∀ p ∈ nd.props.getLast?, p.1.data.toList < a.data.toList) := Lib.hid fun a p hp => by
        have : nd.props = [] := List.eq_nil_of_length_eq_zero (by have := HPN.out.1; omega)
        rw [this] at hp; cases hp
      have hP0 : ¬ (0 : Int) < (Pn : Int) := by omega
      clear hP hi
      go_enter Tryz.func44, Tryz.ntmps44
      go_upto_region 4 with (go_at_call 82; refine HL.out.mono ?_; rintro e w1 ⟨rfl, hb1⟩; have HB1 := Lib.hid hb1; have c6 := (HCE.out _ hb1).c6; clear hb1)
      clear c6
      have HCU := Lib.hid (cut_any s 61 w1 (by omega))
      go_upto_region 5 with (go_at_call 18; refine HCU.out.mono ?_; rintro e w2 ⟨a, b, rfl, ha, hb, hza, hzb, hb2⟩; have HB2 : Hid (Below w.heap.size w w2) := Lib.hid (HB1.out.trans (hb2.mono HB1.out.size)); clear hb2)
      have HV : Hid (propP st d s.data.toList = if wordL a.data.toList = true then hasV st nd a.data.toList b.data.toList else none) := Lib.hid (by rw [HPV.out, ha, hb])
      clear ha hb
      cases hwl : wordL a.data.toList with
      | false =>
        have HW := Lib.hid (word_no a w2 (by omega) hwl)
        have HF : Hid (propP st d s.data.toList = none) := Lib.hid (by rw [HV.out, hwl]; rfl)
        clear hwl
        go_wp2_with (go_at_call 83; refine HW.out.mono ?_; rintro e w3 ⟨rfl, hb3⟩; have HB3 : Hid (Below w.heap.size w w3) := Lib.hid (HB2.out.trans (hb3.mono HB2.out.size)); have c4 := (HCE.out _ HB3.out).c4; clear hb3)
        go_ret
        exact lineQ_no HF.out (HB3.out.mono hBw)
      | true =>
      have HW := Lib.hid (word_yes a w2 (by omega) hwl)
      have HF : Hid (propP st d s.data.toList = hasV st nd a.data.toList b.data.toList) := Lib.hid (by rw [HV.out, hwl]; rfl)
      clear hwl
      obtain ⟨V, tt, er, hu⟩ : ∃ V tt er, unq b 0 = (V, tt, er) := ⟨_, _, _, rfl⟩
      have HFN : Hid (¬ PropC st nd a b (V, tt, er) → propP st d s.data.toList = none) := Lib.hid fun hc => by rw [HF.out]; exact hasV_none (by rw [hu]; exact hc)
      obtain ⟨T, hT⟩ : ∃ T : ByteArray, (⟨V.toArray⟩ : ByteArray) = T := ⟨_, rfl⟩
      have HFS : Hid (PropC st nd a b (V, tt, er) → propP st d s.data.toList = some (lastV st { nd with props := nd.props ++ [(a, T)] })) := Lib.hid fun hc => by
        rw [HF.out, hasV_some (by rw [hu]; exact hc), hu, ← hT]; rfl
      have HTS : Hid (V.length = T.size) := Lib.hid (by rw [← hT]; show _ = (V.toArray).size; rw [List.size_toArray])
      have HUQ : Hid (∀ Y, Calls Tryz.prog 84 #[.string b, .int .i64 0] Y fun e w' => e = .returned (.tuple #[.string T, .int .i64 tt, .int .i64 er]) ∧ Below Y.heap.size Y w') := Lib.hid fun Y => by
        have := unquote_any b 0 Y (by omega)
        unfold Unq at this
        rw [hu] at this
        simp only [hT] at this
        exact this
      have HFIN : Hid (∀ (Az : Option Addr) (cz : Nat) (W : World), MidE B0 B gr gm k st.next (rootV st) (.slice (some ⟨g, 0, none⟩) n c) vw (l.set (n - 1) ({ nd with props := nd.props ++ [(a, T)] }, ⟨⟨Az, Pn + 1, cz⟩, K, ⟨Ra, Rn, Rc⟩⟩)) (wayI st.deep) (idsOf st) w W → RIn B gr gm (k + 1) (.slice (some ⟨g, 0, none⟩) n c) vw (l.set (n - 1) ({ nd with props := nd.props ++ [(a, T)] }, ⟨⟨Az, Pn + 1, cz⟩, K, ⟨Ra, Rn, Rc⟩⟩)) (lastV st { nd with props := nd.props ++ [(a, T)] }) W) := Lib.hid (HFIN0.out T a)
      clear hu hT
      have HLT := Lib.hid (HLT0.out a)
      cases her : (er == 0) with
      | false =>
        have he1 : (er != 0) = true := by rw [bne, her]; rfl
        have HNO : Hid (propP st d s.data.toList = none) := Lib.hid (HFN.out fun hc => by have := hc.e0; simp only at this; rw [this] at her; cases her)
        clear her
        go_wp2_with (first | (go_at_call 83; refine HW.out.mono ?_; rintro e w3 ⟨rfl, hb3⟩; have HB3 : Hid (Below w.heap.size w w3) := Lib.hid (HB2.out.trans (hb3.mono HB2.out.size)); have c4 := (HCE.out _ HB3.out).c4; clear hb3) | (go_at_call 84; refine (HUQ.out _).mono ?_; rintro e w4 ⟨rfl, hb4⟩; have HB4 : Hid (Below w.heap.size w w4) := Lib.hid (HB3.out.trans (hb4.mono HB3.out.size)); clear hb4))
        go_ret
        exact lineQ_no HNO.out (HB4.out.mono hBw)
      | true =>
        have he1 : (er != 0) = false := by rw [bne, her]; rfl
        have HE0 : Hid (er = 0) := Lib.hid (by simpa using her)
        clear her
        cases hto : (tt == (b.size : Int)) with
        | false =>
          have ht1 : (tt != (b.size : Int)) = true := by rw [bne, hto]; rfl
          have HNO : Hid (propP st d s.data.toList = none) := Lib.hid (HFN.out fun hc => by have := hc.e1; simp only at this; rw [this] at hto; simp at hto)
          clear hto
          go_wp2_with (first | (go_at_call 83; refine HW.out.mono ?_; rintro e w3 ⟨rfl, hb3⟩; have HB3 : Hid (Below w.heap.size w w3) := Lib.hid (HB2.out.trans (hb3.mono HB2.out.size)); have c4 := (HCE.out _ HB3.out).c4; clear hb3) | (go_at_call 84; refine (HUQ.out _).mono ?_; rintro e w4 ⟨rfl, hb4⟩; have HB4 : Hid (Below w.heap.size w w4) := Lib.hid (HB3.out.trans (hb4.mono HB3.out.size)); clear hb4))
          go_ret
          exact lineQ_no HNO.out (HB4.out.mono hBw)
        | true =>
          have ht1 : (tt != (b.size : Int)) = false := by rw [bne, hto]; rfl
          have HTO : Hid (tt = (b.size : Int)) := Lib.hid (by simpa using hto)
          clear hto
          by_cases hlen : 4096 < T.size
          · have hl1 : (4096 : Int) < (T.size : Int) := by omega
            have HNO : Hid (propP st d s.data.toList = none) := Lib.hid (HFN.out fun hc => by have := hc.e2; have h2 := HTS.out; simp only at this; omega)
            clear hlen
            go_wp2_with (first | (go_at_call 83; refine HW.out.mono ?_; rintro e w3 ⟨rfl, hb3⟩; have HB3 : Hid (Below w.heap.size w w3) := Lib.hid (HB2.out.trans (hb3.mono HB2.out.size)); have c4 := (HCE.out _ HB3.out).c4; clear hb3) | (go_at_call 84; refine (HUQ.out _).mono ?_; rintro e w4 ⟨rfl, hb4⟩; have HB4 : Hid (Below w.heap.size w w4) := Lib.hid (HB3.out.trans (hb4.mono HB3.out.size)); clear hb4))
            go_ret
            exact lineQ_no HNO.out (HB4.out.mono hBw)
          · have hl1 : ¬ (4096 : Int) < (T.size : Int) := by omega
            have HFY : Hid (propP st d s.data.toList = some (lastV st { nd with props := nd.props ++ [(a, T)] })) := Lib.hid (HFS.out ⟨HE0.out, HTO.out, by have h2 := HTS.out; simp only; omega, HRE.out, HLT.out⟩)
            have HSZ : Hid (a.size ≤ maxLen ∧ T.size ≤ maxLen) := Lib.hid (by unfold maxLen; omega)
            clear hlen
            go_upto_region 12 with (first | (go_at_call 83; refine HW.out.mono ?_; rintro e w3 ⟨rfl, hb3⟩; have HB3 : Hid (Below w.heap.size w w3) := Lib.hid (HB2.out.trans (hb3.mono HB2.out.size)); have c4 := (HCE.out _ HB3.out).c4; clear hb3) | (go_at_call 84; refine (HUQ.out _).mono ?_; rintro e w4 ⟨rfl, hb4⟩; have HB4 : Hid (Below w.heap.size w w4) := Lib.hid (HB3.out.trans (hb4.mono HB3.out.size)); clear hb4))
            have HME := Lib.hid (HMID.out _ HB4.out)
            (try clear c4)
            have c9 := (HCE.out _ HB4.out).c4
            have HMD := Lib.hid (HME.out.after (W' := (w4.alloc (.cells #[.string a, .string T] 60))) ((Below.refl _ _).alloc (Nat.le_refl _) _))
            have HRq : Hid (Row (w4.alloc (.cells #[.string a, .string T] 60)) w4.heap.size (w4.heap.size + 1) 2 (some ⟨w4.heap.size, 0, none⟩) 1 1 [.string a, .string T]) := Lib.hid (row_blk (Blk.new _ _ _) rfl (Nat.le_refl _) (by unfold maxLen; omega))
            go_wp2_with (at_builtin; with_reducible show wpList _ _ _ (⟨some 96, _, _, _, _, _⟩ :: _) _ _; go_must (refine wpList_appS (o := ⟨some 96, _, _, _, _, _⟩) _ rfl (.tmp 91) (.tmp 95) _ rfl B 60 i1 _ 2 32 Tryz.underlying52 hi1 hz1 hs1 hb1 rfl (by omega) (.slice Pa Pn Pc) Pn (propCells nd.props) (by go_simp) (HOX.out _ HMD.out.np) w4.heap.size (w4.heap.size + 1) (some ⟨w4.heap.size, 0, none⟩) 1 1 [.string a, .string T] (by go_simp) HRq.out (by simp [Value.oneCell']) (by unfold maxLen; omega) (by omega) HMD.out.np.hB ?_); go_must (intro A' c' Yn hownN hgrN hnewN; have HMX := Lib.hid (HMD.out.prop (y := (a, T)) hB0 hB1 hlrm.1 hlrm.2 HLX.out HI.out HSZ.out hownN hgrN hnewN); have HON2 := Lib.hid (HMD.out.np.keptN (HOX.out _ HMD.out.np) (by decide) hgrN); have s1 := (nodes_cells HLX.out HON2.out HI.out).c4; have s2 := nodes_frozen HLX.out HON2.out ((n - 1) * 7 + 4); clear hownN hgrN hnewN))
            go_ret
            exact lineQ_yes HFY.out HMX.out.bel (HFIN.out _ _ _ HMX.out)
    · have hpos : 0 < Pn := by omega
      obtain ⟨p, hp1, hp2⟩ := last_nd HPN.out.1.symm hpos
      obtain ⟨gp, rfl, hgp⟩ := own_addrB (HPR.out w (Below.refl _ _)) hpos
      have hP0 : (0 : Int) < (Pn : Int) := by omega
      have hwr : IntKind.i64.wrap ((Pn : Int) - 1) = ((Pn - 1 : Nat) : Int) := by rw [IntWalk.i64_in _ (by omega)]; omega
      have hix : Pn - 1 < Pn := by omega
      have HXP : Hid (∀ Y, Below w.heap.size w Y → Y.cell? ⟨gp, (Pn - 1) * 2, none⟩ = some (.string p.1)) := Lib.hid fun Y hY => by
        rw [World.ownsRow.cellAt (HPR.out Y hY) ((Pn - 1) * 2) (by omega)]
        exact (propCells_get hp1).1
      have HP2 := Lib.hid hp2
      have hpm : p.1.size ≤ maxLen := (H.out.np.leaf _ (List.mem_of_getElem? hi)).sz.props p (List.mem_of_getElem? hp1) |>.1
      clear hP hp1 hp2 hi hpm
      go_enter Tryz.func44, Tryz.ntmps44
      go_upto_region 4 with (go_at_call 82; refine HL.out.mono ?_; rintro e w1 ⟨rfl, hb1⟩; have HB1 := Lib.hid hb1; have c6 := (HCE.out _ hb1).c6; clear hb1)
      clear c6
      have HCU := Lib.hid (cut_any s 61 w1 (by omega))
      go_upto_region 5 with (go_at_call 18; refine HCU.out.mono ?_; rintro e w2 ⟨a, b, rfl, ha, hb, hza, hzb, hb2⟩; have HB2 : Hid (Below w.heap.size w w2) := Lib.hid (HB1.out.trans (hb2.mono HB1.out.size)); clear hb2)
      have HV : Hid (propP st d s.data.toList = if wordL a.data.toList = true then hasV st nd a.data.toList b.data.toList else none) := Lib.hid (by rw [HPV.out, ha, hb])
      clear ha hb
      cases hwl : wordL a.data.toList with
      | false =>
        have HW := Lib.hid (word_no a w2 (by omega) hwl)
        have HF : Hid (propP st d s.data.toList = none) := Lib.hid (by rw [HV.out, hwl]; rfl)
        clear hwl
        go_wp2_with (go_at_call 83; refine HW.out.mono ?_; rintro e w3 ⟨rfl, hb3⟩; have HB3 : Hid (Below w.heap.size w w3) := Lib.hid (HB2.out.trans (hb3.mono HB2.out.size)); have c4 := (HCE.out _ HB3.out).c4; clear hb3)
        go_ret
        exact lineQ_no HF.out (HB3.out.mono hBw)
      | true =>
      have HW := Lib.hid (word_yes a w2 (by omega) hwl)
      have HF : Hid (propP st d s.data.toList = hasV st nd a.data.toList b.data.toList) := Lib.hid (by rw [HV.out, hwl]; rfl)
      clear hwl
      obtain ⟨V, tt, er, hu⟩ : ∃ V tt er, unq b 0 = (V, tt, er) := ⟨_, _, _, rfl⟩
      have HFN : Hid (¬ PropC st nd a b (V, tt, er) → propP st d s.data.toList = none) := Lib.hid fun hc => by rw [HF.out]; exact hasV_none (by rw [hu]; exact hc)
      obtain ⟨T, hT⟩ : ∃ T : ByteArray, (⟨V.toArray⟩ : ByteArray) = T := ⟨_, rfl⟩
      have HFS : Hid (PropC st nd a b (V, tt, er) → propP st d s.data.toList = some (lastV st { nd with props := nd.props ++ [(a, T)] })) := Lib.hid fun hc => by
        rw [HF.out, hasV_some (by rw [hu]; exact hc), hu, ← hT]; rfl
      have HTS : Hid (V.length = T.size) := Lib.hid (by rw [← hT]; show _ = (V.toArray).size; rw [List.size_toArray])
      have HUQ : Hid (∀ Y, Calls Tryz.prog 84 #[.string b, .int .i64 0] Y fun e w' => e = .returned (.tuple #[.string T, .int .i64 tt, .int .i64 er]) ∧ Below Y.heap.size Y w') := Lib.hid fun Y => by
        have := unquote_any b 0 Y (by omega)
        unfold Unq at this
        rw [hu] at this
        simp only [hT] at this
        exact this
      have HFIN : Hid (∀ (Az : Option Addr) (cz : Nat) (W : World), MidE B0 B gr gm k st.next (rootV st) (.slice (some ⟨g, 0, none⟩) n c) vw (l.set (n - 1) ({ nd with props := nd.props ++ [(a, T)] }, ⟨⟨Az, Pn + 1, cz⟩, K, ⟨Ra, Rn, Rc⟩⟩)) (wayI st.deep) (idsOf st) w W → RIn B gr gm (k + 1) (.slice (some ⟨g, 0, none⟩) n c) vw (l.set (n - 1) ({ nd with props := nd.props ++ [(a, T)] }, ⟨⟨Az, Pn + 1, cz⟩, K, ⟨Ra, Rn, Rc⟩⟩)) (lastV st { nd with props := nd.props ++ [(a, T)] }) W) := Lib.hid (HFIN0.out T a)
      clear hu hT
      cases hbl : (Op.bytesLess a.toList p.1.toList || a.toList == p.1.toList) with
      | true =>
        have HNO : Hid (propP st d s.data.toList = none) := Lib.hid (HFN.out fun hc => by
          have h4 := (less_iff a p.1).2 (hc.e4 p (by rw [HP2.out]; rfl))
          rw [h4] at hbl; cases hbl)
        go_wp2_with (go_at_call 83; refine HW.out.mono ?_; rintro e w3 ⟨rfl, hb3⟩; have HB3 : Hid (Below w.heap.size w w3) := Lib.hid (HB2.out.trans (hb3.mono HB2.out.size)); have c4 := (HCE.out _ HB3.out).c4; have xp := HXP.out _ HB3.out; clear hb3)
        go_ret
        exact lineQ_no HNO.out (HB3.out.mono hBw)
      | false =>
        have HLT : Hid (∀ q ∈ nd.props.getLast?, q.1.data.toList < a.data.toList) := Lib.hid fun q hq => by
          rw [HP2.out] at hq
          obtain rfl : p = q := Option.some.inj hq
          exact (less_iff a p.1).1 hbl
        cases her : (er == 0) with
        | false =>
          have he1 : (er != 0) = true := by rw [bne, her]; rfl
          have HNO : Hid (propP st d s.data.toList = none) := Lib.hid (HFN.out fun hc => by have := hc.e0; simp only at this; rw [this] at her; cases her)
          clear her
          go_wp2_with (first | (go_at_call 83; refine HW.out.mono ?_; rintro e w3 ⟨rfl, hb3⟩; have HB3 : Hid (Below w.heap.size w w3) := Lib.hid (HB2.out.trans (hb3.mono HB2.out.size)); have c4 := (HCE.out _ HB3.out).c4; have xp := HXP.out _ HB3.out; clear hb3) | (go_at_call 84; refine (HUQ.out _).mono ?_; rintro e w4 ⟨rfl, hb4⟩; have HB4 : Hid (Below w.heap.size w w4) := Lib.hid (HB3.out.trans (hb4.mono HB3.out.size)); clear hb4))
          go_ret
          exact lineQ_no HNO.out (HB4.out.mono hBw)
        | true =>
          have he1 : (er != 0) = false := by rw [bne, her]; rfl
          have HE0 : Hid (er = 0) := Lib.hid (by simpa using her)
          clear her
          cases hto : (tt == (b.size : Int)) with
          | false =>
            have ht1 : (tt != (b.size : Int)) = true := by rw [bne, hto]; rfl
            have HNO : Hid (propP st d s.data.toList = none) := Lib.hid (HFN.out fun hc => by have := hc.e1; simp only at this; rw [this] at hto; simp at hto)
            clear hto
            go_wp2_with (first | (go_at_call 83; refine HW.out.mono ?_; rintro e w3 ⟨rfl, hb3⟩; have HB3 : Hid (Below w.heap.size w w3) := Lib.hid (HB2.out.trans (hb3.mono HB2.out.size)); have c4 := (HCE.out _ HB3.out).c4; have xp := HXP.out _ HB3.out; clear hb3) | (go_at_call 84; refine (HUQ.out _).mono ?_; rintro e w4 ⟨rfl, hb4⟩; have HB4 : Hid (Below w.heap.size w w4) := Lib.hid (HB3.out.trans (hb4.mono HB3.out.size)); clear hb4))
            go_ret
            exact lineQ_no HNO.out (HB4.out.mono hBw)
          | true =>
            have ht1 : (tt != (b.size : Int)) = false := by rw [bne, hto]; rfl
            have HTO : Hid (tt = (b.size : Int)) := Lib.hid (by simpa using hto)
            clear hto
            by_cases hlen : 4096 < T.size
            · have hl1 : (4096 : Int) < (T.size : Int) := by omega
              have HNO : Hid (propP st d s.data.toList = none) := Lib.hid (HFN.out fun hc => by have := hc.e2; have h2 := HTS.out; simp only at this; omega)
              clear hlen
              go_wp2_with (first | (go_at_call 83; refine HW.out.mono ?_; rintro e w3 ⟨rfl, hb3⟩; have HB3 : Hid (Below w.heap.size w w3) := Lib.hid (HB2.out.trans (hb3.mono HB2.out.size)); have c4 := (HCE.out _ HB3.out).c4; have xp := HXP.out _ HB3.out; clear hb3) | (go_at_call 84; refine (HUQ.out _).mono ?_; rintro e w4 ⟨rfl, hb4⟩; have HB4 : Hid (Below w.heap.size w w4) := Lib.hid (HB3.out.trans (hb4.mono HB3.out.size)); clear hb4))
              go_ret
              exact lineQ_no HNO.out (HB4.out.mono hBw)
            · have hl1 : ¬ (4096 : Int) < (T.size : Int) := by omega
              have HFY : Hid (propP st d s.data.toList = some (lastV st { nd with props := nd.props ++ [(a, T)] })) := Lib.hid (HFS.out ⟨HE0.out, HTO.out, by have h2 := HTS.out; simp only; omega, HRE.out, HLT.out⟩)
              have HSZ : Hid (a.size ≤ maxLen ∧ T.size ≤ maxLen) := Lib.hid (by unfold maxLen; omega)
              clear hlen
              go_upto_region 12 with (first | (go_at_call 83; refine HW.out.mono ?_; rintro e w3 ⟨rfl, hb3⟩; have HB3 : Hid (Below w.heap.size w w3) := Lib.hid (HB2.out.trans (hb3.mono HB2.out.size)); have c4 := (HCE.out _ HB3.out).c4; have xp := HXP.out _ HB3.out; clear hb3) | (go_at_call 84; refine (HUQ.out _).mono ?_; rintro e w4 ⟨rfl, hb4⟩; have HB4 : Hid (Below w.heap.size w w4) := Lib.hid (HB3.out.trans (hb4.mono HB3.out.size)); clear hb4))
              have HME := Lib.hid (HMID.out _ HB4.out)
              (try clear c4)
              have c9 := (HCE.out _ HB4.out).c4
              have HMD := Lib.hid (HME.out.after (W' := (w4.alloc (.cells #[.string a, .string T] 60))) ((Below.refl _ _).alloc (Nat.le_refl _) _))
              have HRq : Hid (Row (w4.alloc (.cells #[.string a, .string T] 60)) w4.heap.size (w4.heap.size + 1) 2 (some ⟨w4.heap.size, 0, none⟩) 1 1 [.string a, .string T]) := Lib.hid (row_blk (Blk.new _ _ _) rfl (Nat.le_refl _) (by unfold maxLen; omega))
              go_wp2_with (at_builtin; with_reducible show wpList _ _ _ (⟨some 96, _, _, _, _, _⟩ :: _) _ _; go_must (refine wpList_appS (o := ⟨some 96, _, _, _, _, _⟩) _ rfl (.tmp 91) (.tmp 95) _ rfl B 60 i1 _ 2 32 Tryz.underlying52 hi1 hz1 hs1 hb1 rfl (by omega) (.slice (some ⟨gp, 0, none⟩) Pn Pc) Pn (propCells nd.props) (by go_simp) (HOX.out _ HMD.out.np) w4.heap.size (w4.heap.size + 1) (some ⟨w4.heap.size, 0, none⟩) 1 1 [.string a, .string T] (by go_simp) HRq.out (by simp [Value.oneCell']) (by unfold maxLen; omega) (by omega) HMD.out.np.hB ?_); go_must (intro A' c' Yn hownN hgrN hnewN; have HMX := Lib.hid (HMD.out.prop (y := (a, T)) hB0 hB1 hlrm.1 hlrm.2 HLX.out HI.out HSZ.out hownN hgrN hnewN); have HON2 := Lib.hid (HMD.out.np.keptN (HOX.out _ HMD.out.np) (by decide) hgrN); have s1 := (nodes_cells HLX.out HON2.out HI.out).c4; have s2 := nodes_frozen HLX.out HON2.out ((n - 1) * 7 + 4); clear hownN hgrN hnewN))
              go_ret
              exact lineQ_yes HFY.out HMX.out.bel (HFIN.out _ _ _ HMX.out)
  · have HF : Hid (propP st d s.data.toList = none) := Lib.hid (by
      rw [HPV.out]
      split
      · unfold hasV
        simp only
        rw [if_neg fun hc => hR (by have := HPN.out.2.1; rw [hc.2.2.2.1] at this; simpa using this)]
      · rfl)
    have hR0 : (0 : Int) < (Rn : Int) := by omega
    clear hR hi
    go_enter Tryz.func44, Tryz.ntmps44
    go_wp2_with (go_at_call 82; refine HL.out.mono ?_; rintro e w1 ⟨rfl, hb1⟩; have HB1 := Lib.hid hb1; have c6 := (HCE.out _ hb1).c6; clear hb1)
    go_ret
    exact lineQ_no HF.out (HB1.out.mono hBw)
end Go.Proofs.YtjjlofaejpnnnaaGreatDoor

/-
  WALK inside a fence: the program's Tree.
  The program's Tree and the document's answer alike, as plain contracts.
  WALKS: sides and equations.
-/
import Derived.Test.YtilemieknfdjnaaGreatZ11
import Derived.Maps.AppendAt
namespace Go.Proofs.YtilemieknfdjnaaGreat
open Go Go.Proofs Go.RowKit Go.Shelf
attribute [local go_sem] Oper.semAt_some
set_option linter.unusedVariables false
/-- the marks that the loops over iterators leave behind -/
def marks (Ds : List Nat) : List Deferred := Ds.map fun D => { target := .collected D, args := #[] }
theorem leave_marks {F : Fence} {n : Nat} {P : Program} {fn : Func} {tmps : Array Value} {R : Ending → World → Prop} (Pz : World → Prop) (hz : ∀ W, Pz W → LeavesIn F n P fn tmps R [] .returning W) :
    ∀ (Ds : List Nat) (W : World), Ds.Nodup → (∀ D ∈ Ds, W.heap[D]? = some (.deferred (some []))) → (∀ W, ∀ D ∈ Ds, W.heap[D]? = some (.deferred (some [])) → Pz W → Pz (W.putObj D (.deferred none))) → Pz W → LeavesInM F n P fn tmps R (marks Ds) .returning W
  | [], W, _, _, _, h => hz W h
  | D :: Ds, W, hn, hd, hp, h => by
    obtain ⟨h1, h2⟩ := List.nodup_cons.1 hn
    have hD := hd D List.mem_cons_self
    refine ⟨by simp, .inl ⟨D, _, rfl, run_takeDeferred hD, ?_⟩⟩
    refine leave_marks Pz hz Ds _ h2 (fun D' hD' => ?_) (fun W D' hD' => hp W D' (List.mem_cons_of_mem _ hD')) (hp W D List.mem_cons_self hD h)
    have hne : D' ≠ D := fun e => h1 (e ▸ hD')
    have h3 := hd D' (List.mem_cons_of_mem _ hD')
    exact ((grownBy_putObj' W D (.deferred none)).block D' (Array.getElem?_eq_some_iff.1 h3).1 (fun e => hne (Option.some.inj e))).trans h3
theorem comes_back (zs : List Int) : (comes (fromEnd zs zs.length) zs.length).map (·.2) = zs.reverse := by
  apply List.ext_getElem
  · simp [comes]
  · intro i h1 h2
    have hi : i < zs.length := by simpa [comes] using h1
    simp [comes, fromEnd, List.getElem_reverse, Nat.sub_right_comm, show zs.length - 1 - i < zs.length by omega]
    rw [List.getElem?_eq_getElem (by omega)]; rfl
theorem intsAt_of {w W : World} {hi na ca : Nat} {Aa : Option Addr} {xa : List Int} (h : Row w 0 hi 1 Aa na ca (intCells xa)) (hn : na = xa.length) (hh : hi ≤ w.heap.size) (hb : Below w.heap.size w W) : IntsAt w.heap.size W (.slice Aa na ca) xa := by
  rcases Nat.eq_zero_or_pos na with h0 | h0
  · subst h0
    exact .inl ⟨Aa, ca, rfl, List.length_eq_zero_iff.1 hn.symm⟩
  · obtain ⟨b, o, hA, _, hb2, hc⟩ := h.2.2.2 h0
    subst hn
    refine .inr ⟨b, o, ca, by rw [hA], by omega, fun j hj => ?_⟩
    refine (hb.cell (p := ⟨b, o + j, none⟩) (show b < w.heap.size by omega)).trans (hc j _ ?_)
    rw [List.getElem?_eq_getElem hj]
    exact intCells_get (List.getElem?_eq_getElem hj)
/-- the open list while a side's numbers come -/
def TI (w : World) (R0 : List Int) (Ds : List Nat) (Bs : Nat) (sv : Value) (pre : List (Nat × Int)) (W : World) : Prop := ∃ (A2 : Option Addr) (m2 c2 : Nat), Blk W (w.heap.size + 1) 79 #[.slice A2 m2 c2] ∧ OwnI W w.heap.size (.slice A2 m2 c2) (R0 ++ pre.map (·.2)) ∧ (R0 ++ pre.map (·.2)).length = m2 ∧ Below w.heap.size w W ∧ Blk W Bs 79 #[sv] ∧ ∀ D ∈ Ds, W.heap[D]? = some (.deferred (some []))
theorem TI.own {w : World} {R0 : List Int} {Ds : List Nat} {Bs : Nat} {sv : Value} {B : Nat} (hD : ∀ D ∈ Ds, D < B) (hB : w.heap.size ≤ B) : OwnFrom B (TI w R0 Ds Bs sv) := by
  rintro s W W' row ⟨A2, m2, c2, h1, h2, h3, h4, h6, h5⟩ hg hr
  have hne : ∀ (N : Nat) (t : TypeId) (cs : Array Value), W.heap[N]? = some (.cells cs t (0, 0)) → some N ≠ row := by
    intro N t cs hb e
    obtain ⟨_, o, ho, hc⟩ := hr N e.symm
    rw [hb] at ho
    injection ho with ho
    rw [← ho] at hc; cases hc
  refine ⟨A2, m2, c2, h1.grown hg (hne _ _ _ h1), World.ownsRow.kept h2 hg ?_, h3, h4.grown hg h4.size (fun k e => Nat.le_trans hB (hr k e).1), h6.grown hg (hne _ _ _ h6), fun D hDs => (hg.block D (Array.getElem?_eq_some_iff.1 (h5 D hDs)).1 (fun e => by have := (hr D e.symm).1; have := hD D hDs; omega)).trans (h5 D hDs)⟩
  rcases h2.2 with ⟨hv, _⟩ | ⟨g', cap, cur, hv, _, hg', _⟩
  · exact .inl (by rw [hv]; rfl)
  · exact .inr (by rw [hv]; exact hne _ _ _ hg')
theorem own_cells {w : World} {B size n : Nat} {e : TypeId} {v : Value} {xs : List Value} (h : w.ownsRow B e size v n xs) : ∀ (j : Nat) (o : Obj), v.ownBlock = some j → w.heap[j]? = some o → o.isCells = true := by
  intro j o hv ho
  rcases h.2 with ⟨hv2, _⟩ | ⟨g', cap, cur, hv2, _, hg', _⟩
  · rw [hv2] at hv; cases hv
  · rw [hv2] at hv
    have e2 : g' = j := Option.some.inj hv
    subst e2
    rw [hg'] at ho
    injection ho with ho
    rw [← ho]; rfl
theorem heap_alloc_at {W : World} {D : Nat} {x : Obj} (h : W.heap[D]? = some x) (o : Obj) : (W.alloc o).heap[D]? = some x := by
  have h1 := (Array.getElem?_eq_some_iff.1 h).1
  rw [← h]
  show (W.heap.push o)[D]? = _
  rw [Array.getElem?_push, if_neg (by omega)]
theorem heap_set_at {W : World} {D N i : Nat} {x : Obj} {u : Value} (h : W.heap[D]? = some x) (hn : D ≠ N) : (W.setCell ⟨N, i, none⟩ u).heap[D]? = some x :=
  (Below.heap_setCell W ⟨N, i, none⟩ u D hn).trans h
theorem not_blk {W : World} {D N : Nat} {t : TypeId} {cs : Array Value} (h : W.heap[D]? = some (.deferred (some []))) (hb : Blk W N t cs) : D ≠ N := fun e => by
  subst e
  have h2 : W.heap[D]? = some (.cells cs t (0, 0)) := hb
  rw [h] at h2; cases h2
set_option maxRecDepth 100000 in
set_option maxHeartbeats 2000000 in
theorem tree_in (F : Fence) (f : Nat) (h15 : F.fn 110) (h37 : F.fn 132) (h48 : F.fn 144) (hro : F.round = none) (hf : 3 ≤ f) (w : World) (hi : Nat) (A : Option Addr) (n c : Nat) (l : List (SideD × Sl)) (h : GRow sideC SideIn 4 w 0 hi ⟨A, n, c⟩ l) (hh : hi ≤ w.heap.size) (hn : n ≤ 2000) (ha : ∀ g ∈ l, g.1.args.length ≤ 268435456) :
    CallsIn F f Tryz.prog 110 #[.slice A n c] w (Ret w (.bool (treeP (l.map (·.1.args)) 0 [0]))) := by
  have HI := Lib.hid h
  have HN : Hid (n = l.length) := Lib.hid h.n
  have z1 : n ≤ c := h.row.2.1
  have y1 : c ≤ maxLen := h.row.2.2.1
  unfold maxLen at y1
  clear h
  obtain ⟨T, hT⟩ : ∃ T, l.map (·.1.args) = T := ⟨_, rfl⟩
  rw [hT]
  have HT := Lib.hid hT
  obtain ⟨V, hV⟩ : ∃ V, treeP T 0 [0] = V := ⟨_, rfl⟩
  have HTn : Hid (T.length = n) := Lib.hid (by rw [← hT, List.length_map, HN.out])
  have HV0 : Hid (treeP (T.drop 0) 0 ([0] : List Int).reverse = V) := Lib.hid (by rw [← hV]; rfl)
  rw [hV]
  clear hT hV
  have HO0 : Hid (OwnI ((w.alloc (.cells #[.int .i64 0] 3)).alloc (.cells #[.slice (some ⟨w.heap.size, 0, none⟩) 1 1] 79)) w.heap.size (.slice (some ⟨w.heap.size, 0, none⟩) 1 1) [0]) := Lib.hid (OwnI.alloc ⟨rfl, .inr ⟨w.heap.size, 1, #[.int .i64 0], rfl, Nat.le_refl _, Blk.new _ _ _, Nat.le_refl _, by unfold maxLen; omega, rfl, rfl⟩⟩ _)
  have HX0 : Hid (Blk ((w.alloc (.cells #[.int .i64 0] 3)).alloc (.cells #[.slice (some ⟨w.heap.size, 0, none⟩) 1 1] 79)) (w.heap.size + 1) 79 #[.slice (some ⟨w.heap.size, 0, none⟩) 1 1]) := Lib.hid (Blk.new' (by simp))
  have HB0 : Hid (Below w.heap.size w ((w.alloc (.cells #[.int .i64 0] 3)).alloc (.cells #[.slice (some ⟨w.heap.size, 0, none⟩) 1 1] 79))) := Lib.hid ((below_more (Below.refl _ _) _).alloc (by simp) _)
  refine callsIn_of_wp_marks Tryz.func110 rfl h15 ?_ hro
  simp only [Tryz.ntmps110, List.size_toArray, List.length_cons, List.length_nil, Nat.reduceAdd, Nat.reduceSub, Array.replicate_succ, Array.replicate_zero, List.push_toArray, List.append_toArray, List.nil_append, List.cons_append]
  gi_wp2
  refine wpIn_loop (fun a' W => ∃ (Ds : List Nat) (k m : Nat) (R : List Int) (A' : Option Addr) (c' : Nat) (u1 u4 u5 u6 u7 u8 u13 u14 u15 u16 u17 u18 u19 u20 u21 u22 u23 u24 u25 u26 u27 u28 u29 u30 u31 u32 u33 u34 u35 u36 u37 u38 u39 u40 u41 u42 u43 u44 u45 : Value), a' = ⟨#[.slice A n c, u1, .bool false, .pointer (some ⟨w.heap.size + 1, 0, none⟩), u4, u5, u6, u7, u8, .slice (some ⟨w.heap.size, 0, none⟩) 1 1, .slice A n c, .int .i64 (n : Int), .int .i64 (k : Int), u13, u14, u15, u16, u17, u18, u19, u20, u21, u22, u23, u24, u25, u26, u27, u28, u29, u30, u31, u32, u33, u34, u35, u36, u37, u38, u39, u40, u41, u42, u43, u44, u45], marks Ds⟩ ∧ k ≤ n ∧ m ≤ 1 + k * 268435456 ∧ Hid (R.length = m) ∧ Hid (treeP (T.drop k) k R.reverse = V) ∧ Hid (Blk W (w.heap.size + 1) 79 #[.slice A' m c']) ∧ Hid (OwnI W w.heap.size (.slice A' m c') R) ∧ Hid (Below w.heap.size w W) ∧ Hid (Ds.Nodup ∧ ∀ D ∈ Ds, w.heap.size ≤ D ∧ W.heap[D]? = some (.deferred (some []))))
    (fun a' _ => n - (intOf (a'.tmps.getD 12 undef)).toNat) ?start ?round
  case start => exact ⟨[], 0, 1, [0], _, 1, _, _, _, _, _, _, _, _, _, _, _, _, _, _, _, _, _, _, _, _, _, _, _, _, _, _, _, _, _, _, _, _, _, _, _, _, _, _, _, rfl, Nat.zero_le _, by omega, Lib.hid rfl, HV0, HX0, HO0, HB0, Lib.hid ⟨List.nodup_nil, by simp⟩⟩
  case round =>
    intro a' wo hinv
    obtain ⟨Ds, k, m, R, A1, c1, u1, u4, u5, u6, u7, u8, u13, u14, u15, u16, u17, u18, u19, u20, u21, u22, u23, u24, u25, u26, u27, u28, u29, u30, u31, u32, u33, u34, u35, u36, u37, u38, u39, u40, u41, u42, u43, u44, u45, rfl, hk, hm, HL, HV, HX, HO, HB, HD⟩ := hinv
    have hsx := HX.out.lt
    have hsz := HB.out.size
    have cb := (HX.out.cell 0).trans (show _ = some (.slice A1 m c1) from rfl)
    have fb := HX.out.frozen 0
    by_cases hlt : k < n
    · obtain ⟨b, o, hA, _, hb, VV⟩ := HI.out.at_ (fun _ => rfl) (show 0 < n by omega)
      simp only at hA
      subst hA
      obtain ⟨x, hx⟩ : ∃ x, l[k]? = some x := ⟨l[k]'(by have := HN.out; omega), List.getElem?_eq_getElem _⟩
      obtain ⟨hlf, hat⟩ := VV k x hx
      have hax := ha x (List.mem_of_getElem? hx)
      obtain ⟨⟨x1, x2, x3, xa⟩, ⟨Aa, na, ca⟩⟩ := x
      simp only at hax
      have q0 : wo.cell? ⟨b, o + k * 4, none⟩ = some (.int .i64 x1) := (HB.out.cell (p := ⟨_, _, none⟩) (show b < w.heap.size by omega)).trans (hat 0 _ (by omega) rfl)
      have q1 : wo.cell? ⟨b, o + k * 4 + 1, none⟩ = some (.string x2) := (HB.out.cell (p := ⟨_, _, none⟩) (show b < w.heap.size by omega)).trans (hat 1 _ (by omega) rfl)
      have q2 : wo.cell? ⟨b, o + k * 4 + 2, none⟩ = some (.int .i64 x3) := (HB.out.cell (p := ⟨_, _, none⟩) (show b < w.heap.size by omega)).trans (hat 2 _ (by omega) rfl)
      have q3 : wo.cell? ⟨b, o + k * 4 + 3, none⟩ = some (.slice Aa na ca) := (HB.out.cell (p := ⟨_, _, none⟩) (show b < w.heap.size by omega)).trans (hat 3 _ (by omega) rfl)
      have HTk : Hid (T[k]? = some xa) := Lib.hid (by rw [← HT.out, List.getElem?_map, hx]; rfl)
      have HNa : Hid (na = xa.length) := Lib.hid hlf.an
      have HRa : Hid (Row w 0 hi 1 Aa na ca (intCells xa)) := Lib.hid hlf.a
      clear hlf hat VV hx
      by_cases hm0 : 0 < m
      · obtain ⟨m0, rfl⟩ : ∃ m0, m = m0 + 1 := ⟨m - 1, by omega⟩
        obtain ⟨R0, t, hR⟩ : ∃ R0 t, R = R0 ++ [t] := by
          rcases List.eq_nil_or_concat R with e | ⟨R0, t, e⟩
          · have := HL.out; rw [e] at this; simp at this
          · exact ⟨R0, t, by simpa using e⟩
        have hR0 : R0.length = m0 := by have := HL.out; rw [hR] at this; simpa using this
        obtain ⟨g, rfl, hc1, hc2⟩ := own_someI HO.out HL.out (by omega)
        unfold maxLen at hc2
        have ct : wo.cell? ⟨g, m0, none⟩ = some (.int .i64 t) := own_atI HO.out HL.out (by rw [hR, List.getElem?_append_right (by omega), hR0]; simp)
        have HO2 : Hid (OwnI wo w.heap.size (.slice (some ⟨g, 0, none⟩) m0 c1) R0) := Lib.hid (own_takeI HO.out HL.out (by omega) (by rw [hR, List.take_append_of_le_length (by omega), List.take_of_length_le (by omega)]) hR0)
        have HV2 : Hid (treeP (T.drop k) k (t :: R0.reverse) = V) := Lib.hid (by rw [← HV.out, hR, List.reverse_append]; rfl)
        have HR0 := Lib.hid hR0
        have hgl : g < wo.heap.size := (World.ownsRow.lt HO.out g rfl).2
        clear hR hR0 HV HL HO hm0
        by_cases htk : t = (k : Int)
        · subst htk
          have HV3 : Hid (treeP (T.drop (k + 1)) (k + 1) (xa ++ R0.reverse) = V) := Lib.hid (by rw [← HV2.out, treeP_go HTk.out])
          clear HV2
          have h1f : 1 ≤ f := by omega
          gi_wp2_with (gi_at_call 132; refine (back_in F (f - 1) h37 hro _ _ _ _).mono ?_; rintro e w' ⟨rfl, rfl⟩)
          obtain ⟨W1, hW1⟩ : ∃ W1, (((wo.setCell ⟨w.heap.size + 1, 0, none⟩ (.slice (some ⟨g, 0, none⟩) m0 c1)).alloc (.cells #[.int .i64 x1, .string x2, .int .i64 x3, .slice Aa na ca] 141)).alloc (.cells #[.slice Aa na ca] 79)) = W1 := ⟨_, rfl⟩
          have hs1 : W1.heap.size = wo.heap.size + 2 := by rw [← hW1]; simp
          have HX1 : Hid (Blk W1 (w.heap.size + 1) 79 #[.slice (some ⟨g, 0, none⟩) m0 c1]) := Lib.hid (by rw [← hW1]; have := ((HX.out.set_ 0 (.slice (some ⟨g, 0, none⟩) m0 c1)).alloc (.cells #[.int .i64 x1, .string x2, .int .i64 x3, .slice Aa na ca] 141)).alloc (.cells #[.slice Aa na ca] 79); simpa using this)
          have HO1 : Hid (OwnI W1 w.heap.size (.slice (some ⟨g, 0, none⟩) m0 c1) R0) := Lib.hid (by rw [← hW1]; exact OwnI.alloc (OwnI.alloc (own_other HO2.out HX.out (by decide) 0 _) _) _)
          have HB1 : Hid (Below w.heap.size w W1) := Lib.hid (by rw [← hW1]; exact ((HB.out.setCell (p := ⟨w.heap.size + 1, 0, none⟩) (Nat.le_succ _) _).alloc (by simp; omega) _).alloc (by simp; omega) _)
          have HD1 : Hid (∀ D ∈ Ds, D < wo.heap.size ∧ W1.heap[D]? = some (.deferred (some []))) := Lib.hid fun D hD => ⟨(Array.getElem?_eq_some_iff.1 (HD.out.2 D hD).2).1, by rw [← hW1]; exact heap_alloc_at (heap_alloc_at (heap_set_at (HD.out.2 D hD).2 (not_blk (HD.out.2 D hD).2 HX.out)) _) _⟩
          have hb0 : Blk W1 (wo.heap.size + 1) 79 #[.slice Aa na ca] := by rw [← hW1]; exact Blk.new' (by simp)
          have hbs : W1.cell? ⟨wo.heap.size + 1, 0, none⟩ = some (.slice Aa na ca) := hb0.cell 0
          have hIA : IntsAt w.heap.size W1 (.slice Aa na ca) xa := intsAt_of HRa.out HNa.out hh HB1.out
          have HNl : Hid (R0.length = m0) := HR0
          have hbz := HB1.out.size
          rw [hW1]
          clear hW1 cb fb ct q0 q1 q2 q3
          refine wpIn_rangeFunc_ownF hro h1f (gf := 144) (lb := #[.pointer (some ⟨wo.heap.size + 1, 0, none⟩)]) rfl h48 (enters_of Tryz.func144 (by kernel_rfl) rfl)
            (back_stops F (f - 1) h48 hro (by omega) (wo.heap.size + 1) w.heap.size _ xa (by omega) W1 (by omega) (by omega) hbs hIA) KpB.trans (kpB_b (by omega)) (Below.refl _ _) (fun _ => rfl)
            (TI w R0 Ds (wo.heap.size + 1) (.slice Aa na ca)) (fun _ _ _ => False) (TI.own (fun D hD => by have := (HD1.out D hD).1; omega) (by omega)) (fun _ _ _ _ _ h _ _ => h)
            ⟨some ⟨g, 0, none⟩, m0, c1, HX1.out, by simpa using HO1.out, by simpa using HNl.out, HB1.out, hb0, fun D hD => (HD1.out D hD).2⟩
            (fun x => { tmps := #[.slice (some ⟨b, o, none⟩) n c, u1, .bool false, .pointer (some ⟨w.heap.size + 1, 0, none⟩), .int .i64 k, .pointer (some ⟨wo.heap.size, 0, none⟩), .int .i64 m0, u7, .int .i64 x.2, .slice (some ⟨w.heap.size, 0, none⟩) 1 1, .slice (some ⟨b, o, none⟩) n c, .int .i64 n, .int .i64 k, .bool true, .int .i64 k, .pointer (some ⟨b, o + k * 4, none⟩), .agg #[.int .i64 x1, .string x2, .int .i64 x3, .slice Aa na ca], .slice (some ⟨g, 0, none⟩) (m0 + 1) c1, .int .i64 ((m0 : Int) + 1), .int .i64 m0, .int .i64 m0, .bool (decide ((m0 : Int) < 0)), .bool (decide ((m0 : Int) < 0)), .slice (some ⟨g, 0, none⟩) (m0 + 1) c1, .int .i64 m0, .pointer (some ⟨g, m0, none⟩), .int .i64 k, .int .i64 k, .bool false, .bool (decide ((m0 : Int) < 0)), .slice (some ⟨g, 0, none⟩) (m0 + 1) c1, .int .i64 m0, .slice (some ⟨g, 0, none⟩) m0 c1, .pointer (some ⟨wo.heap.size, 3, none⟩), .slice Aa na ca, .func (.func 144) #[] #[.pointer (some ⟨wo.heap.size + 1, 0, none⟩)], .int .i64 (x.1 : Int), .int .i64 x.2, u38, u39, u40, u41, u42, u43, u44, u45], defers := [] }) ?assign ?body ?done ?stop
          case assign =>
            intro l x W K hK
            gi_wp2
            exact hK
          case body =>
            rintro l pre x W ⟨A2, m2, c2, hX2, hO2, hL2, hB2, hBs2, hM2⟩ hlt2
            obtain ⟨i0, hi0, hz0, hz1, hz2⟩ := info_parts info_int
            have hneI : (3 : TypeId) ≠ 79 := by decide
            have hO3 : W.ownsRow w.heap.size 3 1 (.slice A2 m2 c2) m2 (intCells (R0 ++ pre.map (·.2))) := by have := hO2; unfold OwnI at this; rw [hL2] at this; exact this
            have hm2 : m0 + pre.length = m2 := by rw [← hL2, List.length_append, List.length_map, HNl.out]
            have HM2 := Lib.hid hm2
            have cb2 := (hX2.cell 0).trans (show _ = some (.slice A2 m2 c2) from rfl)
            have fb2 := hX2.frozen 0
            have hsx2 := hX2.lt
            have hsz2 := hB2.size
            have hm3 : m2 ≤ 1099511627776 := by have := HNa.out; omega
            clear hm2
            gi_wp2_with (gi_at_builtin; refine wpListIn_append_own _ rfl _ _ 79 rfl w.heap.size 3 i0 (.int .i64 0) 1 8 Tryz.underlying79 hi0 hz0 hz1 hz2 rfl (by decide) (.slice A2 m2 c2) m2 (intCells (R0 ++ pre.map (·.2))) rfl (World.ownsRow.alloc hO3 _) ⟨W.heap.size, 0, none⟩ 1 1 [.int .i64 x.2] rfl rfl (cell_one_new _ _ _) (by simp [Value.oneCell']) (by unfold maxLen; omega) (by omega) (by simp; omega) ?_; intro v' w1 hown' hgrow _; obtain ⟨A3, c3, rfl⟩ := own_form hown'; have hX3 := Blk.grown (hX2.alloc (.cells #[.int .i64 x.2] 3)) hgrow (Ne.symm (own_blk_ne (World.ownsRow.alloc hO3 (.cells #[.int .i64 x.2] 3)) (hX2.alloc (.cells #[.int .i64 x.2] 3)) hneI)); have hY3 := Blk.grown (hBs2.alloc (.cells #[.int .i64 x.2] 3)) hgrow (Ne.symm (own_blk_ne (World.ownsRow.alloc hO3 (.cells #[.int .i64 x.2] 3)) (hBs2.alloc (.cells #[.int .i64 x.2] 3)) hneI)); have cb3 := hX3.cell 0; have fb3 := hX3.frozen 0)
            have hKO := ((KeepsOthers.alloc W (.cells #[.int .i64 x.2] 3)).trans (KeepsOthers.of_grownBy hgrow (own_cells (World.ownsRow.alloc hO3 (.cells #[.int .i64 x.2] 3))))).trans (KeepsOthers.setCell w1 ⟨w.heap.size + 1, 0, none⟩ (.slice A3 (m2 + 1) c3))
            have hBW : Below w.heap.size W (w1.setCell ⟨w.heap.size + 1, 0, none⟩ (.slice A3 (m2 + 1) c3)) := ((((Below.refl _ W).alloc hsz2 (.cells #[.int .i64 x.2] 3)).grown hgrow (by simp; omega) (fun k hk => (World.ownsRow.lt (World.ownsRow.alloc hO3 (.cells #[.int .i64 x.2] 3)) k hk).1))).setCell (p := ⟨w.heap.size + 1, 0, none⟩) (Nat.le_succ _) _
            have hBs3 : Blk (w1.setCell ⟨w.heap.size + 1, 0, none⟩ (.slice A3 (m2 + 1) c3)) (wo.heap.size + 1) 79 #[.slice Aa na ca] := (Below.heap_setCell w1 ⟨w.heap.size + 1, 0, none⟩ _ _ (show wo.heap.size + 1 ≠ w.heap.size + 1 by omega)).trans hY3
            have hap : R0 ++ (pre ++ [x]).map (·.2) = (R0 ++ pre.map (·.2)) ++ [x.2] := by simp
            refine ⟨hKO, ⟨hBW, fun v hv => ?_⟩, A3, m2 + 1, c3, by simpa using hX3.set_ 0 (.slice A3 (m2 + 1) c3), ?_, by rw [hap, List.length_append, hL2]; rfl, hB2.trans hBW, hBs3, fun D hD => hKO.same D _ (hM2 D hD) rfl⟩
            · rw [hBs2.cell 0] at hv; rw [hBs3.cell 0]; exact hv
            · rw [hap]
              have h7 := own_other hown' hX3 hneI 0 (.slice A3 (m2 + 1) c3)
              unfold OwnI
              rw [List.length_append, hL2]
              simpa [intCells] using h7
          case done =>
            rintro D ys W hDs rfl ⟨A2, m2, c2, hX2, hO2, hL2, hB2, hBs2, hM2⟩ hK
            rw [comes_back] at hO2 hL2
            have hm2 : m0 + na = m2 := by rw [← hL2, List.length_append, List.length_reverse, HNl.out, HNa.out]
            have HM2 := Lib.hid hm2
            have HV4 : Hid (treeP (T.drop (k + 1)) (k + 1) (R0 ++ xa.reverse).reverse = V) := Lib.hid (by rw [← HV3.out, List.reverse_append, List.reverse_reverse])
            have HDn : Hid ((D :: Ds).Nodup ∧ ∀ D' ∈ D :: Ds, w.heap.size ≤ D' ∧ W.heap[D']? = some (.deferred (some []))) := Lib.hid ⟨List.nodup_cons.2 ⟨fun hD => by have := (HD1.out D hD).1; omega, HD.out.1⟩, fun D' hD' => by
              rcases List.mem_cons.1 hD' with rfl | hD'
              · exact ⟨by omega, hK⟩
              · exact ⟨(HD.out.2 D' hD').1, hM2 D' hD'⟩⟩
            clear hm2
            gi_wp2
            refine ⟨⟨D :: Ds, k + 1, m2, R0 ++ xa.reverse, A2, c2, _, _, _, _, _, _, _, _, _, _, _, _, _, _, _, _, _, _, _, _, _, _, _, _, _, _, _, _, _, _, _, _, _, _, _, _, _, _, _, rfl, by omega, by have := HM2.out; have := HNa.out; omega, Lib.hid hL2, HV4, Lib.hid hX2, Lib.hid hO2, Lib.hid hB2, HDn⟩, ?_⟩
            simp [intOf]; omega
          case stop =>
            rintro D c pre W _ _ h _
            exact h.elim
        · have HF : Hid (V = false) := Lib.hid (by rw [← HV2.out, treeP_other HTk.out htk])
          have hne : (t != (k : Int)) = true := by rw [bne_iff_ne]; exact htk
          gi_wp2
          refine leave_marks (fun W => Below w.heap.size w W) (fun W hW => ⟨_, results_tmp rfl _ _ _, ?_⟩) Ds _ HD.out.1 (fun D hD => heap_alloc_at (HD.out.2 D hD).2 _) (fun W D hD hd hW => ?_) (HB.out.alloc hsz _)
          · exact ⟨by rw [HF.out]; rfl, hW⟩
          · exact hW.trans (belowK_b (w := w) (Nat.le_refl _) W D _ _ (HD.out.2 D hD).1 hd rfl rfl)
      · have hm00 : m = 0 := by omega
        subst hm00
        have HF : Hid (V = false) := Lib.hid (by
          have h1 : R = [] := List.length_eq_zero_iff.1 HL.out
          rw [← HV.out, h1, List.reverse_nil, treeP_none HTk.out])
        gi_wp2
        refine leave_marks (fun W => Below w.heap.size w W) (fun W hW => ⟨_, results_tmp rfl _ _ _, ?_⟩) Ds _ HD.out.1 (fun D hD => heap_alloc_at (HD.out.2 D hD).2 _) (fun W D hD hd hW => ?_) (HB.out.alloc hsz _)
        · exact ⟨by rw [HF.out]; rfl, hW⟩
        · exact hW.trans (belowK_b (w := w) (Nat.le_refl _) W D _ _ (HD.out.2 D hD).1 hd rfl rfl)
    · have hkn : k = n := by omega
      have HF : Hid (V = ((m : Int) == 0)) := Lib.hid (by
        rw [← HV.out, hkn, ← HTn.out, treeP_end]
        rw [Bool.eq_iff_iff, List.isEmpty_iff, List.reverse_eq_nil_iff, beq_iff_eq]
        have := HL.out
        constructor
        · rintro rfl; simp at this; omega
        · intro h; exact List.length_eq_zero_iff.1 (by omega))
      gi_wp2
      refine leave_marks (fun W => Below w.heap.size w W) (fun W hW => ⟨_, results_tmp rfl _ _ _, ?_⟩) Ds _ HD.out.1 (fun D hD => (HD.out.2 D hD).2) (fun W D hD hd hW => ?_) HB.out
      · exact ⟨by rw [HF.out]; rfl, hW⟩
      · exact hW.trans (belowK_b (w := w) (Nat.le_refl _) W D _ _ (HD.out.2 D hD).1 hd rfl rfl)
end Go.Proofs.YtilemieknfdjnaaGreat
namespace Go.Proofs.YtilemieknfdjnaaGreat
open Go Go.Proofs Go.RowKit Go.Shelf
set_option linter.unusedVariables false
theorem tree_any (w : World) (hi : Nat) (A : Option Addr) (n c : Nat) (l : List (SideD × Sl)) (h : GRow sideC SideIn 4 w 0 hi ⟨A, n, c⟩ l) (hh : hi ≤ w.heap.size) (hn : n ≤ 2000) (ha : ∀ g ∈ l, g.1.args.length ≤ 268435456) :
    Calls Tryz.prog 110 #[.slice A n c] w (Ret w (.bool (treeD n (l.map (·.1.args)) 0 [0]))) := by
  rw [← tree_same n _ 0 [0] (by rw [List.length_map]; have := h.n; simp only at this; omega)]
  exact (callsIn_wide (n := 3)).1 (tree_in _ 3 trivial trivial trivial rfl (by omega) w hi A n c l h hh hn ha)
end Go.Proofs.YtilemieknfdjnaaGreat
namespace Go.Proofs.YtilemieknfdjnaaGreat
open Go Go.RowKit Go.Sort
set_option linter.unusedVariables false
attribute [local go_sem ↓] Go.wp_at_zero Go.wp_at_succ
set_option maxRecDepth 20000 in
set_option maxHeartbeats 3200000 in
theorem sound_any (w : World) (q : SideD × Sl) (hn : q.2.n = q.1.args.length) : Calls Tryz.prog 109 #[.agg #[.int .i64 q.1.kind, .string q.1.name, .int .i64 q.1.num, .slice q.2.A q.2.n q.2.c]] w (Ret w (.bool (soundB q.1))) := by
  have HB0 : Hid (Below w.heap.size w (w.alloc (.cells #[.int .i64 q.1.kind, .string q.1.name, .int .i64 q.1.num, .slice q.2.A q.2.n q.2.c] 141))) := Lib.hid (below_of_alloc _)
  have HX0 : Hid (Blk (w.alloc (.cells #[.int .i64 q.1.kind, .string q.1.name, .int .i64 q.1.num, .slice q.2.A q.2.n q.2.c] 141)) w.heap.size 141 #[.int .i64 q.1.kind, .string q.1.name, .int .i64 q.1.num, .slice q.2.A q.2.n q.2.c]) := Lib.hid (Blk.new _ _ _)
  have hemp : q.1.args.isEmpty = ((q.2.n : Int) == 0) := by
    rw [Bool.eq_iff_iff, List.isEmpty_iff, beq_iff_eq, hn]
    exact ⟨fun h => by rw [h]; rfl, fun h => List.length_eq_zero_iff.1 (by omega)⟩
  have HS : Hid (soundB q.1 = (withinB q.1.kind 1 5 && (if q.1.kind == 1 then bEq q.1.name ⟨#[]⟩ else nmB q.1.name) && (q.1.num == 0 || (decide (0 < q.1.num) && q.1.kind == 2)) && ((q.2.n : Int) == 0 || q.1.kind == 4))) := Lib.hid (by
    unfold soundB
    rw [hemp]
    congr 3
    by_cases h : q.1.kind = 1 <;> simp [h])
  rw [HS.out]
  clear hemp hn HS
  generalize hw : withinB q.1.kind 1 5 = bw
  generalize hr : nmB q.1.name = br
  generalize hp : bEq q.1.name ⟨#[]⟩ = bp
  have HW := Lib.hid hw
  have HR : Hid (nameL q.1.name.data.toList = br) := Lib.hid hr
  have hp' : (q.1.name.toList == (⟨#[]⟩ : ByteArray).toList) = bp := hp
  have hpp : q.1.name.toList = [] ↔ bp = true := by rw [← hp', beq_iff_eq]; simp
  clear hw hr hp
  cases k1 : (q.1.kind == 1) <;> cases bw <;> cases br <;> cases bp
  all_goals (
    simp only [reduceCtorEq, iff_false, iff_true] at hpp
    go_enter Tryz.func109, Tryz.ntmps109
    go_wp2_with (first | (go_at_call 42; (with_reducible refine (nRight_any _ _).mono ?_); go_must (rintro e1 Y1 ⟨rfl, rfl⟩; rw [HR.out])) | (go_at_call 96; (with_reducible refine (within_any _ _ _ _).mono ?_); go_must (rintro e2 Y2 ⟨rfl, hb2⟩; rw [HW.out]; have HB2 := Lib.hid (HB0.out.trans (hb2.mono HB0.out.size)); have hx2 := HX0.out.after hb2; have c0 := hx2.cell 0; have c2 := hx2.cell 2; have c3 := hx2.cell 3; simp at c0 c2 c3; clear hb2 hx2)))
    all_goals go_ret
    all_goals exact ret_b (by first | rfl | (simp [*]; done) | (simp [*]; intro hz; omega) | (exact absurd (by assumption) hpp)) rfl HB2.out)
set_option maxHeartbeats 800000 in
theorem unsound_any (w : World) (q : SideD × Sl) (hn : q.2.n = q.1.args.length) : Calls Tryz.prog 108 #[.agg #[.int .i64 q.1.kind, .string q.1.name, .int .i64 q.1.num, .slice q.2.A q.2.n q.2.c]] w (Ret w (.bool (!(soundB q.1)))) := by
  have HB0 : Hid (Below w.heap.size w (w.alloc (.cells #[.int .i64 q.1.kind, .string q.1.name, .int .i64 q.1.num, .slice q.2.A q.2.n q.2.c] 141))) := Lib.hid (below_of_alloc _)
  have HS := Lib.hid (sound_any (w.alloc (.cells #[.int .i64 q.1.kind, .string q.1.name, .int .i64 q.1.num, .slice q.2.A q.2.n q.2.c] 141)) q hn)
  generalize soundB q.1 = y at HS
  clear hn
  cases y
  all_goals (
    go_enter Tryz.func108, Tryz.ntmps108
    go_wp2_with (go_at_call 109; (with_reducible refine HS.out.mono ?_); go_must (rintro e2 Y2 ⟨rfl, hb2⟩; have HB2 := Lib.hid (HB0.out.trans (hb2.mono HB0.out.size)); clear hb2))
    go_ret
    exact ret_b rfl rfl HB2.out)
theorem tells_si (w : World) (hi : Nat) (l : List (SideD × Sl)) (hl : ∀ g ∈ l, SideIn w 0 hi g) : Tells w 108 #[] (fun q : SideD × Sl => .agg #[.int .i64 q.1.kind, .string q.1.name, .int .i64 q.1.num, .slice q.2.A q.2.n q.2.c]) l (fun y => !(soundB y.1)) :=
  ⟨enters_of Tryz.func108 (by kernel_rfl) rfl, fun X hX x hx => unsound_any X x (hl x hx).an⟩
set_option maxRecDepth 20000 in
set_option maxHeartbeats 1600000 in
theorem sideErr_any (w : World) (hi : Nat) (S : Sl) (l : List (SideD × Sl)) (h : GRow sideC SideIn 4 w 0 hi S l) (hh : hi ≤ w.heap.size) (ha : ∀ g ∈ l, g.1.args.length ≤ 268435456) : Calls Tryz.prog 64 #[.slice S.A S.n S.c] w (Ret w (.int .i64 (sideErr l))) := by
  have hn := h.n
  have hnc := h.row.2.1
  have hc := h.row.2.2.1
  unfold maxLen at hc
  have HNL := Lib.hid hn
  have HC : Hid (Calls Tryz.prog 107 #[.slice S.A S.n S.c, .func (.func 108) #[] #[]] w (Ret w (.bool (l.any fun y => !(soundB y.1))))) := Lib.hid (contains_si w hi S.A S.n S.c l h.row hh 108 #[] _ (tells_si w hi l h.all))
  have HT : 64 < l.length ∨ Hid (∀ Y, Below w.heap.size w Y → Calls Tryz.prog 110 #[.slice S.A S.n S.c] Y (Ret Y (.bool (treeP (l.map fun s => s.1.args) 0 [0])))) := by
    by_cases h64 : 64 < l.length
    · exact .inl h64
    · refine .inr (Lib.hid fun Y hY => ?_)
      rw [tree_same S.n _ 0 [0] (by rw [List.length_map]; omega)]
      exact tree_any Y hi S.A S.n S.c l (⟨h.n, h.row.keep fun b o hb => hY.cell (p := ⟨b, o, none⟩) (Nat.lt_of_lt_of_le hb hh), fun g hg => ⟨(h.all g hg).an, (h.all g hg).a.keep fun b o hb => hY.cell (p := ⟨b, o, none⟩) (Nat.lt_of_lt_of_le hb hh)⟩⟩) (Nat.le_trans hh hY.size) (by omega) ha
  have HR0 : Hid (sideErr l = if 64 < l.length then 4 else if (l.any fun y => !(soundB y.1)) || !(treeP (l.map fun s => s.1.args) 0 [0]) then 2 else 0) := Lib.hid rfl
  rw [HR0.out]
  clear h ha hn HR0
  generalize (l.any fun y => !(soundB y.1)) = y1 at HC
  generalize treeP (l.map fun s => s.1.args) 0 [0] = y2 at HT
  by_cases h64 : 64 < l.length
  · have d : 64 < S.n := by rw [HNL.out]; exact h64
    rw [if_pos h64]
    clear h64 HT HC
    go_enter Tryz.func64, Tryz.ntmps64
    go_wp2_with fail
    go_ret
    exact ⟨rfl, Below.refl _ _⟩
  · have d : ¬ 64 < S.n := by rw [HNL.out]; exact h64
    rw [if_neg h64]
    replace HT := HT.resolve_left h64
    clear h64
    cases y1 <;> cases y2
    all_goals (
      go_enter Tryz.func64, Tryz.ntmps64
      go_wp2_with (first | (go_at_call 107; (with_reducible refine HC.out.mono ?_); go_must (rintro e1 Y1 ⟨rfl, hb1⟩; have HB1 := Lib.hid hb1; clear hb1)) | (go_at_call 110; (with_reducible refine (HT.out _ HB1.out).mono ?_); go_must (rintro e2 Y2 ⟨rfl, hb2⟩; have HB2 := Lib.hid (HB1.out.trans (hb2.mono HB1.out.size)); clear hb2)))
      go_ret
      exact ⟨rfl, by first | exact HB2.out | exact HB1.out⟩)
set_option maxHeartbeats 400000 in
theorem sideAsk_any (w : World) (hi : Nat) (S : Sl) (l : List (SideD × Sl)) (h : GRow sideC SideIn 4 w 0 hi S l) (hh : hi ≤ w.heap.size) (ha : ∀ g ∈ l, g.1.args.length ≤ 268435456) (k : Nat) : Calls Tryz.prog 63 #[.int .i64 k, .slice S.A S.n S.c] w (Ret w (.int .i64 (sideErr l))) := by
  have HS := Lib.hid (sideErr_any w hi S l h hh ha)
  clear h ha
  generalize sideErr l = y at HS
  go_enter Tryz.func63, Tryz.ntmps63
  go_wp2_with (go_at_call 64; (with_reducible refine HS.out.mono ?_); go_must (rintro e2 Y2 ⟨rfl, hb2⟩; have HB2 := Lib.hid hb2; clear hb2))
  go_ret
  exact ⟨rfl, HB2.out⟩
theorem eachV_map {α β : Type} (f : α → β) (most : Nat) (pl : Nat → Fa) (one : Nat → β → Out) : ∀ (l : List α) (i : Nat), eachV most pl (fun i x => one i (f x)) i l = eachV most pl one i (l.map f)
  | [], i => rfl
  | x :: r, i => by rw [List.map_cons, eachV, eachV, eachV_map f most pl one r (i + 1)]
set_option maxRecDepth 20000 in
set_option maxHeartbeats 1600000 in
theorem one_eq (w X : World) (hi : Nat) (hh : hi ≤ w.heap.size) (hX : Below w.heap.size w X) (k : Nat) (q : EqM) (hq : EqIn w 0 hi q) (ha : (∀ g ∈ q.ls, g.1.args.length ≤ 268435456) ∧ ∀ g ∈ q.rs, g.1.args.length ≤ 268435456) :
    Calls Tryz.prog 61 #[.int .i64 k, .agg #[.string q.con, .slice q.L.A q.L.n q.L.c, .slice q.R.A q.R.n q.R.c]] X (Ends X (eqO k q)) := by
  have HE : Hid (∀ Y cW, Below X.heap.size X Y → Blk Y (X.heap.size + 1) 50 #[.slice q.L.A q.L.n q.L.c, .slice q.R.A q.R.n q.R.c] → Wher Y 97 cW (partF 4 k 0) → Calls Tryz.prog 62 #[.slice (some ⟨X.heap.size + 1, 0, none⟩) 2 2, .int .i64 2, .func (.func 97) #[] cW, .func (.func 63) #[] #[]] Y (Comes' Y (eachV 2 (partF 4 k 0) (fun _ s => .ret (sideErr s)) 0 [q.ls, q.rs]))) := Lib.hid fun Y cW hY hu hW => by
    have hY' : Below w.heap.size w Y := hX.trans (hY.mono hX.size)
    have := each_ls Y Y.heap.size (some ⟨X.heap.size + 1, 0, none⟩) 2 2 [(q.L, q.ls), (q.R, q.rs)] (Row.mono (row_blk (n := 2) (c := 2) (size := 1) hu rfl (Nat.le_refl _) (by decide)) (Nat.zero_le _) hu.lt) (Nat.le_refl _) 2 (by decide) _ 63 cW #[] (partF 4 k 0) (fun _ s => .ret (sideErr s.2)) hW
      ⟨enters_of Tryz.func63 (by kernel_rfl) rfl, fun Z hZ j p hp => by
        have hZ' : Below w.heap.size w Z := hY'.trans (hZ.mono hY'.size)
        have hpm := List.mem_of_getElem? hp
        have key : ∀ (S : Sl) (l : List (SideD × Sl)), GRow sideC SideIn 4 w 0 hi S l → (∀ g ∈ l, g.1.args.length ≤ 268435456) → Calls Tryz.prog 63 #[.int .i64 j, .slice S.A S.n S.c] Z (Ret Z (.int .i64 (sideErr l))) := fun S l hg hl =>
          sideAsk_any Z hi S l ⟨hg.n, hg.row.keep fun b o hb => hZ'.cell (p := ⟨b, o, none⟩) (Nat.lt_of_lt_of_le hb hh), fun g h => ⟨(hg.all g h).an, (hg.all g h).a.keep fun b o hb => hZ'.cell (p := ⟨b, o, none⟩) (Nat.lt_of_lt_of_le hb hh)⟩⟩ (Nat.le_trans hh hZ'.size) hl j
        rcases List.mem_cons.1 hpm with rfl | h2
        · exact key q.L q.ls hq.l ha.1
        · obtain rfl := List.mem_singleton.1 h2
          exact key q.R q.rs hq.r ha.2⟩
    rw [eachV_map (fun s : Sl × List (SideD × Sl) => s.2) 2 (partF 4 k 0) (fun _ s => .ret (sideErr s))] at this
    exact this
  have HR0 : Hid (eqO k q = if nmB q.con then outOf (eachV 2 (partF 4 k 0) (fun _ s => .ret (sideErr s)) 0 [q.ls, q.rs]) else .ret 2) := Lib.hid rfl
  rw [HR0.out]
  clear hX hq ha HR0
  generalize eachV 2 _ _ 0 [q.ls, q.rs] = v at HE
  have hmf : ∀ (fn : Fn) (first cap : Array Value) (w : World), (Instr.makeFunc fn first cap).run Tryz.prog w = .ok (.func fn first cap) w := fun _ _ _ _ => rfl
  cases hd : nmB q.con with
  | false =>
    have HD : Hid (nameL q.con.data.toList = false) := Lib.hid hd
    clear hd
    rw [if_neg (by decide)]
    go_enter Tryz.func61, Tryz.ntmps61
    go_wp2_with (go_at_call 42; (with_reducible refine (nRight_any _ _).mono ?_); go_must (rintro e1 Y1 ⟨rfl, rfl⟩; rw [HD.out]))
    go_ret
    exact ⟨rfl, (by (repeat (first | exact Below.refl _ _ | refine below_more ?_ _ | refine below_drew ?_ | refine below_drewN ?_ _)))⟩
  | true =>
    have HD : Hid (nameL q.con.data.toList = true) := Lib.hid hd
    clear hd
    rw [if_pos rfl]
    cases v with
    | none =>
      go_enter Tryz.func61, Tryz.ntmps61
      go_wp2_with (first | (go_at_call 42; (with_reducible refine (nRight_any _ _).mono ?_); go_must (rintro e1 Y1 ⟨rfl, rfl⟩; rw [HD.out])) | (go_at_call 53; (with_reducible refine (parts_wher _ 4 k 0 0 rfl (by decide)).mono ?_); go_must (rintro e3 Y3 ⟨cW, rfl, hw3, hb3⟩; have HW3 := Lib.hid hw3; have HX3 : Hid (Below X.heap.size X Y3) := Lib.hid (Below.trans (by (repeat (first | exact Below.refl _ _ | refine below_more ?_ _ | refine below_drew ?_ | refine below_drewN ?_ _))) (hb3.mono (Below.size (w := X) (B := X.heap.size) (by (repeat (first | exact Below.refl _ _ | refine below_more ?_ _ | refine below_drew ?_ | refine below_drewN ?_ _)))))); have HU3 : Hid (Blk Y3 (X.heap.size + 1) 50 #[.slice q.L.A q.L.n q.L.c, .slice q.R.A q.R.n q.R.c]) := Lib.hid (Blk.after (by (repeat (first | exact Blk.new' (by first | rfl | (simp; done)) | refine Blk.drew ?_ | refine Blk.drewN ?_ _))) hb3); clear hb3 hw3)) | (go_at_call 62; (with_reducible refine (HE.out _ _ HX3.out HU3.out HW3.out).mono ?_); go_must (rintro e4 Y4 ⟨rfl, hb4⟩; have HX4 := Lib.hid (HX3.out.trans (hb4.mono HX3.out.size)); clear hb4)))
      go_ret
      exact ⟨rfl, HX4.out⟩
    | some f =>
      go_enter Tryz.func61, Tryz.ntmps61
      go_wp2_with (first | (go_at_call 42; (with_reducible refine (nRight_any _ _).mono ?_); go_must (rintro e1 Y1 ⟨rfl, rfl⟩; rw [HD.out])) | (go_at_call 53; (with_reducible refine (parts_wher _ 4 k 0 0 rfl (by decide)).mono ?_); go_must (rintro e3 Y3 ⟨cW, rfl, hw3, hb3⟩; have HW3 := Lib.hid hw3; have HX3 : Hid (Below X.heap.size X Y3) := Lib.hid (Below.trans (by (repeat (first | exact Below.refl _ _ | refine below_more ?_ _ | refine below_drew ?_ | refine below_drewN ?_ _))) (hb3.mono (Below.size (w := X) (B := X.heap.size) (by (repeat (first | exact Below.refl _ _ | refine below_more ?_ _ | refine below_drew ?_ | refine below_drewN ?_ _)))))); have HU3 : Hid (Blk Y3 (X.heap.size + 1) 50 #[.slice q.L.A q.L.n q.L.c, .slice q.R.A q.R.n q.R.c]) := Lib.hid (Blk.after (by (repeat (first | exact Blk.new' (by first | rfl | (simp; done)) | refine Blk.drew ?_ | refine Blk.drewN ?_ _))) hb3); clear hb3 hw3)) | (go_at_call 62; (with_reducible refine (HE.out _ _ HX3.out HU3.out HW3.out).mono ?_); go_must (rintro e4 Y4 ⟨rfl, hb4⟩; have HX4 := Lib.hid (HX3.out.trans (hb4.mono HX3.out.size)); clear hb4)))
      exact ⟨rfl, rfl, HX4.out⟩
end Go.Proofs.YtilemieknfdjnaaGreat

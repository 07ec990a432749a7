/-
  The document's Copy in one.
  WALKS: a node is removed: the document's marks.
  WALKS: a node is removed: the document's.
  WALKS: slices.DeleteFunc of nodes, by the closure of the program's Remove.
-/
import Derived.Test.YtfljndlmafcjeaaZ25
namespace Go.Proofs.Ytfljndlmafcjeaa
open Go Go.RowKit Go.Sort
set_option linter.unusedVariables false
/-- Copy of the document -/
theorem refCopy_any (w : World) (hi : Nat) (next id parent at_ : Int) (role : ByteArray) (A : Option Addr) (n c : Nat) (nds : List Nd) (h : NodesIn w 0 hi A n c nds) (hh : hi ≤ w.heap.size) (hs : role.size ≤ maxLen) (hf : ∀ nd ∈ nds, Fits 1 nd) :
    Calls Try.prog 9 #[.agg #[.int .i64 next, .slice A n c], .int .i64 id, .int .i64 parent, .string role, .int .i64 at_] w (CopyPost w next nds id parent role at_) := by
  cases hr : rightB next nds with
  | false => exact refCopy_e29 w hi next id parent at_ role A n c nds h hh hs hr (by unfold copyE; rw [if_pos hr])
  | true =>
    have hrm := rightM hr
    have hr' : ¬ rightB next nds = false := by rw [hr]; simp
    by_cases hw0 : parent ≠ 0 ∧ wordB role = false
    · exact refCopy_e2 w hi next id parent at_ role A n c nds h hh hs hr hw0.1 hw0.2 (by
        unfold copyE
        rw [if_neg hr', if_pos (by rw [hw0.2, beq_eq_false_iff_ne.2 hw0.1]; rfl)])
    · have hww : parent ≠ 0 → wordB role = true := fun h0 => by
        cases hw : wordB role with
        | true => rfl
        | false => exact absurd ⟨h0, hw⟩ hw0
      have hw1 : (parent == 0 || wordB role) = true := by
        by_cases h0 : parent = 0
        · rw [h0]; rfl
        · rw [hww h0, Bool.or_true]
      have hw' : ¬ (parent == 0 || wordB role) = false := by rw [hw1]; simp
      cases hx : ndOf nds id with
      | none =>
        have hE : copyE next nds id parent role at_ = 20 := by unfold copyE; rw [if_neg hr', if_neg hw', if_pos (by rw [hx]; rfl)]
        by_cases h0 : parent = 0
        · exact refCopy_e20r w hi next id parent at_ role A n c nds h hh hs hr h0 (atV_nil hx) hE
        · exact refCopy_e20p w hi next id parent at_ role A n c nds h hh hs hr h0 (hww h0) (atV_nil hx) hE
      | some nd =>
        obtain ⟨i, hav⟩ := atV_ix hx
        have hx' : ¬ (ndOf nds id).isNone = true := by rw [hx]; simp
        have hEE : copyE next nds id parent role at_ = (admV next nds parent role at_ (hiV nds id) (preI nds id).length).2 := by unfold copyE; rw [if_neg hr', if_neg hw', if_neg hx']
        by_cases hpn : parent ≠ 0 ∧ ndOf nds parent = none
        · exact refCopy_e20pp w hi next id parent at_ role A n c nds h hh hs hr hpn.1 (hww hpn.1) i hav (atV_nil hpn.2) (by
            rw [hEE]
            unfold admV
            rw [if_pos ⟨hpn.1, by rw [hpn.2]; rfl⟩])
        · have hpx : parent ≠ 0 → ∃ x, ndOf nds parent = some x := fun h0 => by
            cases hy : ndOf nds parent with
            | none => exact absurd ⟨h0, hy⟩ hpn
            | some x => exact ⟨x, rfl⟩
          have hap : parent ≠ 0 → ∃ j : Nat, atV nds parent = (j : Int) := fun h0 => by
            obtain ⟨x, hy⟩ := hpx h0
            exact atV_ix hy
          have hfull := adm_full (next := next) (role := role) (at_ := at_) (L := hiV nds id) (M := (preI nds id).length) hpx
          obtain ⟨re, hre⟩ : ∃ re, mayV nds parent role at_ (hiV nds id) = re := ⟨_, rfl⟩
          rw [hre] at hfull
          by_cases hz : re = 0
          · subst hz
            rw [if_neg (by simp)] at hfull
            by_cases e1 : 4096 < nds.length + (preI nds id).length
            · rw [if_pos e1] at hfull
              have hE : copyE next nds id parent role at_ = 4 := by rw [hEE, hfull]
              by_cases h0 : parent = 0
              · exact refCopy_fullr w hi next id parent at_ role A n c nds h hh hs hr h0 i hav nd hx hpx hre (.inl e1) hE
              · obtain ⟨j, hj⟩ := hap h0
                exact refCopy_fullp w hi next id parent at_ role A n c nds h hh hs hr h0 (hww h0) i hav j hj nd hx hpx hre (.inl e1) hE
            · rw [if_neg e1] at hfull
              by_cases e2 : 1048576 < next - 1 + ((preI nds id).length : Nat)
              · rw [if_pos e2] at hfull
                have hE : copyE next nds id parent role at_ = 4 := by rw [hEE, hfull]
                by_cases h0 : parent = 0
                · exact refCopy_fullr w hi next id parent at_ role A n c nds h hh hs hr h0 i hav nd hx hpx hre (.inr ⟨e1, e2⟩) hE
                · obtain ⟨j, hj⟩ := hap h0
                  exact refCopy_fullp w hi next id parent at_ role A n c nds h hh hs hr h0 (hww h0) i hav j hj nd hx hpx hre (.inr ⟨e1, e2⟩) hE
              · rw [if_neg e2] at hfull
                have hE : copyE next nds id parent role at_ = 0 := by rw [hEE, hfull]
                by_cases h0 : parent = 0
                · exact refCopy_yesr w hi next id parent at_ role A n c nds h hh hs hf hr h0 i hav nd hx hpx hre _ hfull hE
                · obtain ⟨j, hj⟩ := hap h0
                  exact refCopy_yesp w hi next id parent at_ role A n c nds h hh hs hf hr h0 (hww h0) i hav j hj nd hx hpx hre _ hfull hE
          · rw [if_pos hz] at hfull
            have hE : copyE next nds id parent role at_ = re := by rw [hEE, hfull]
            by_cases h0 : parent = 0
            · exact refCopy_admr w hi next id parent at_ role A n c nds h hh hs hr h0 i hav nd hx hpx re hz hre hE
            · obtain ⟨j, hj⟩ := hap h0
              exact refCopy_admp w hi next id parent at_ role A n c nds h hh hs hr h0 (hww h0) i hav j hj nd hx hpx re hz hre hE
end Go.Proofs.Ytfljndlmafcjeaa
namespace Go.Proofs.Ytfljndlmafcjeaa
open Go Go.RowKit Go.Sort
set_option linter.unusedVariables false
attribute [local go_sem ↓] Go.wp_at_zero Go.wp_at_succ
/-- the boxes, and the marks -/
structure GB (w : World) (next : Int) (A : Option Addr) (n c gb : Nat) (nds : List Nd) (S : List Int) (X : World) : Prop where
  a : A0 w next A n c X
  g : BBlk X gb (goneB nds S)
  le : w.heap.size ≤ gb
section
variable {w X X' : World} {next : Int} {A : Option Addr} {n c gb : Nat} {nds : List Nd} {S : List Int}
theorem GB.after (h : GB w next A n c gb nds S X) (hb : Below X.heap.size X X') : GB w next A n c gb nds S X' := ⟨h.a.after hb, Blk.after h.g hb, h.le⟩
theorem GB.fz (h : GB w next A n c gb nds S X) (i : Nat) : X.frozen? ⟨gb, i, none⟩ = false := Blk.frozen h.g i
theorem GB.set (h : GB w next A n c gb nds S X) (hr : Rise nds) {j : Nat} {nd : Nd} (hj : nds[j]? = some nd) : GB w next A n c gb nds (S ++ [nd.id]) (X.setCell ⟨gb, j, none⟩ (.bool true)) :=
  ⟨⟨h.a.m.far (p := ⟨gb, j, none⟩) (h.a.m.ne_ h.g (by decide)) _, h.a.r.far (p := ⟨gb, j, none⟩) (h.a.r.ne_ h.g (by decide)) _, h.a.bel.setCell (p := ⟨gb, j, none⟩) h.le _⟩, by rw [← goneB_set hr hj]; exact h.g.set_ j true, h.le⟩
end
/-- the list of the nodes that are left, behind all that was there in X5 -/
structure GL (X5 : World) (next : Int) (ov : Value) (lo : List (Nd × Leaf)) (X : World) : Prop where
  b : Below X5.heap.size X5 X
  o : Blk X X5.heap.size 24 #[.int .i64 next, ov]
  own : X.ownsRow (X5.heap.size + 1) 44 7 ov lo.length (allCells lo)
section
variable {X5 X X' : World} {next : Int} {ov v' : Value} {lo : List (Nd × Leaf)} {p : Nd × Leaf}
theorem GL.start (X5 : World) (next : Int) : GL X5 next (.slice none 0 0) [] (X5.alloc (.cells #[.int .i64 next, .slice none 0 0] 24)) := ⟨below_more (Below.refl _ _) _, Blk.new _ _ _, ⟨by simp [allCells], .inl ⟨rfl, rfl⟩⟩⟩
theorem GL.after (h : GL X5 next ov lo X) (hb : Below X.heap.size X X') : GL X5 next ov lo X' := ⟨h.b.trans (hb.mono h.b.size), h.o.after hb, own_after h.own hb⟩
theorem GL.kept (h : GL X5 next ov lo X) (hg : X.grownBy X' ov.ownBlock) : Below X5.heap.size X5 X' ∧ Blk X' X5.heap.size 24 #[.int .i64 next, ov] :=
  ⟨below_grows h.b hg h.own (Nat.le_succ _), h.o.grown hg (Ne.symm (own_blk_ne h.own h.o (by decide)))⟩
theorem GL.push (h : GL X5 next ov lo X) (hg : X.grownBy X' ov.ownBlock) (hown : X'.ownsRow (X5.heap.size + 1) 44 7 v' (lo.length + 1) (allCells lo ++ ndCells p)) : GL X5 next v' (lo ++ [p]) (X'.setCell ⟨X5.heap.size, 1, none⟩ v') := by
  obtain ⟨h1, h2⟩ := h.kept hg
  refine ⟨h1.setCell (p := ⟨X5.heap.size, 1, none⟩) (Nat.le_refl _) _, by simpa using h2.set_ 1 v', ?_⟩
  rw [List.length_append, List.length_singleton, show allCells (lo ++ [p]) = allCells lo ++ ndCells p from by simp [allCells]]
  exact own_other hown h2 (by decide) 1 v'
end
def leftP (S : List Int) (l : List (Nd × Leaf)) : List (Nd × Leaf) := l.filter fun q => !S.contains q.1.id
theorem leftP_succ (S : List Int) (l : List (Nd × Leaf)) {k : Nat} {q : Nd × Leaf} (h : l[k]? = some q) : leftP S (l.take (k + 1)) = leftP S (l.take k) ++ if S.contains q.1.id = true then [] else [q] := by
  unfold leftP
  rw [List.take_add_one, h, List.filter_append]
  congr 1
  cases hx : S.contains q.1.id with
  | true => rw [if_pos rfl]; exact List.filter_cons_of_neg (by rw [hx]; decide)
  | false => rw [if_neg (by decide)]; exact List.filter_cons_of_pos (by rw [hx]; rfl)
theorem leftP_map (S : List Int) (l : List (Nd × Leaf)) : (leftP S l).map (·.1) = leftV S (l.map (·.1)) := by
  unfold leftP leftV
  rw [List.filter_map]; rfl
theorem leftP_len (S : List Int) (l : List (Nd × Leaf)) : (leftP S l).length ≤ l.length := List.length_filter_le _ _
end Go.Proofs.Ytfljndlmafcjeaa
namespace Go.Proofs.Ytfljndlmafcjeaa
open Go Go.RowKit Go.Sort
set_option linter.unusedVariables false
attribute [local go_sem ↓] Go.wp_at_zero Go.wp_at_succ
section
variable {w X X' : World} {next : Int} {A : Option Addr} {n c gb g m co : Nat} {nds : List Nd} {S : List Int} {l : List (Nd × Leaf)}
theorem GB.turned (h : GB w next A n c gb nds S X) (ho : OwnM X w.heap.size (.slice (some ⟨g, 0, none⟩) m co) l) (hg : X.grownBy X' (some g)) : GB w next A n c gb nds S X' :=
  ⟨⟨h.a.m.grown hg (Ne.symm (own_blk_ne ho.own h.a.m (by decide))), h.a.r.grown hg (Ne.symm (own_blk_ne ho.own h.a.r (by decide))), below_grows (v := .slice (some ⟨g, 0, none⟩) m co) h.a.bel hg ho.own (Nat.le_refl _)⟩, Blk.grown h.g hg (Ne.symm (own_blk_ne ho.own h.g (by decide))), h.le⟩
end
set_option maxRecDepth 20000 in
set_option maxHeartbeats 3200000 in
theorem refRemove_yes (w : World) (hi : Nat) (next id : Int) (A : Option Addr) (n c : Nat) (nds : List Nd) (h : NodesIn w 0 hi A n c nds) (hh : hi ≤ w.heap.size) (hf : ∀ nd ∈ nds, Fits 1 nd) (hr : rightB next nds = true) (nd : Nd) (hx : ndOf nds id = some nd) :
    Calls Try.prog 11 #[.agg #[.int .i64 next, .slice A n c], .int .i64 id] w (SetPost w next (removeE next nds id) (removeL nds id)) := by
  have hres : Try.f11.results = #[.cell 4 24, .tmp 5] := by kernel_rfl
  have HA0 := Lib.hid (A0.start w next A n c)
  have HE : Hid (removeE next nds id = 0) := Lib.hid (by unfold removeE; rw [if_neg (by rw [hr]; simp), if_neg (by rw [hx]; simp)])
  have HRg : Hid (∀ X, Below w.heap.size w X → Calls Try.prog 24 #[.agg #[.int .i64 next, .slice A n c]] X (Ret X (.bool true))) := Lib.hid fun X hX => by
    have := refRight_any X hi next A n c nds (h.below (hX.mono hh)) (Nat.le_trans hh hX.size)
    rw [hr] at this
    exact this
  have hrm := rightM hr
  have hn4 : n ≤ 4096 := by rw [← h.1]; exact hrm.len
  have hc := h.2.2.1
  have hnc := h.2.1
  unfold maxLen at hc
  obtain ⟨i, hix, hig, hie⟩ := ndOf_some hx
  have hin : i < n := by rw [← h.1]; exact (List.getElem?_eq_some_iff.1 hig).1
  have hav : atV nds id = (i : Int) := by unfold atV; rw [hix]
  have hi0 : ¬ (i : Int) < 0 := by omega
  have HAi : Hid (∀ X, Below w.heap.size w X → Calls Try.prog 26 #[.agg #[.int .i64 next, .slice A n c], .int .i64 id] X (Ret X (.int .i64 i))) := Lib.hid fun X hX => by
    have := refAt_any X hi next id A n c nds (h.below (hX.mono hh)) (Nat.le_trans hh hX.size) hrm.rise hn4
    rw [hav] at this
    exact this
  have HAy : Hid (∀ X, Below w.heap.size w X → ∀ (j : Nat) y nd', nds[j]? = some nd' → nd'.id = y → Calls Try.prog 26 #[.agg #[.int .i64 next, .slice A n c], .int .i64 y] X (Ret X (.int .i64 j))) := Lib.hid fun X hX j y nd' h1 h2 => by
    have h3 := refAt_any X hi next y A n c nds (h.below (hX.mono hh)) (Nat.le_trans hh hX.size) hrm.rise hn4
    rw [show atV nds y = j from by unfold atV; rw [ixOf_is hrm.rise h1 h2]] at h3
    exact h3
  have HDn : Hid (∀ X, Below w.heap.size w X → Calls Try.prog 28 #[.agg #[.int .i64 next, .slice A n c], .int .i64 id] X (ListR X (belowV nds id))) := Lib.hid fun X hX => refDown_any X hi next id A n c nds (h.below (hX.mono hh)) (Nat.le_trans hh hX.size) hrm nd hx
  have HBU : Hid (∀ y ∈ belowV nds id, ∃ (j : Nat) (nd' : Nd), nds[j]? = some nd' ∧ nd'.id = y) := Lib.hid fun y hy => by
    obtain ⟨⟨nd', h1⟩, _⟩ := below_up hrm hx hy
    obtain ⟨j, _, h2, h3⟩ := ndOf_some h1
    exact ⟨j, nd', h2, h3⟩
  have hll4 : (belowV nds id).length ≤ 4096 := Nat.le_trans (below_len hrm hx) hrm.len
  have HTw := Lib.hid fun (X : World) (hX : Below w.heap.size w X) => twin_any X hi next A n c nds (h.below (hX.mono hh)) (Nat.le_trans hh hX.size) hn4 hf
  obtain ⟨t, ht⟩ : ∃ t, takeL nds id = t := ⟨_, rfl⟩
  have HTk : Hid (∀ X g co l, OwnM X w.heap.size (.slice (some ⟨g, 0, none⟩) n co) l → l.length = n → l.map (·.1) = nds → Calls Try.prog 31 #[.agg #[.int .i64 next, .slice (some ⟨g, 0, none⟩) n co], .int .i64 id] X (PutPost X w.heap.size g n co t)) := Lib.hid fun X g co l h1 h2 h3 => by
    subst h3
    rw [← ht]
    exact refTake_any X w.heap.size next id g n co l h1 h2 hrm nd hx (fun h0 => in_kids hrm hx h0)
  have HPB := Lib.hid (pre_below hrm hx)
  have hnr := hrm.rise
  have HLN0 : Hid (nds.length = n) := Lib.hid h.1
  have HTT := Lib.hid ht
  have hrl : removeL nds id = leftV (preI nds id) t := by rw [removeL_left, ht]
  have HRL := Lib.hid hrl
  have HIE := Lib.hid hie
  have HTI : Hid (∀ (k : Nat) y, t[k]? = some y → ∃ nd', nds[k]? = some nd' ∧ nd'.id = y.id) := Lib.hid fun k y hy => by
    rw [← ht] at hy
    cases hk : nds[k]? with
    | none => unfold takeL at hy; rw [List.getElem?_map, hk] at hy; cases hy
    | some nd' =>
      obtain ⟨h1, h2⟩ := takeL_ids (id := id) hk
      rw [h1] at hy
      injection hy with hy
      exact ⟨nd', rfl, by rw [← hy, h2]⟩
  have hmk := make_bools n (by omega)
  have hnn := goneB_nil nds
  rw [HLN0.out] at hnn
  have HNN := Lib.hid hnn
  obtain ⟨i0, hi0', hz0, hz1, hz2⟩ := info_parts nodeInfo
  clear h hf hr hrm hx hix hav hie ht hnn hrl
  go_enter Try.func11, Try.ntmps11
  go_upto_region 6 with (first | (go_at_call 24; (with_reducible refine (HRg.out _ HA0.out.bel).mono ?_); go_must (rintro e w1 ⟨rfl, hb1⟩; have ha1 := HA0.out.after hb1; have r10 := ha1.r.cell 0; have r11 := ha1.r.cell 1; have r12 := ha1.r.frozen 0; have r13 := ha1.r.frozen 1; have m10 := ha1.m.cell 0; have m11 := ha1.m.cell 1; simp at r10 r11 m10 m11; have HA1 := Lib.hid ha1; clear ha1 hb1)) | (go_at_call 26; (with_reducible refine (HAi.out _ HA1.out.bel).mono ?_); go_must (rintro e w3 ⟨rfl, hb3⟩; have ha3 := HA1.out.after hb3; have r30 := ha3.r.cell 0; have r31 := ha3.r.cell 1; have r32 := ha3.r.frozen 0; have r33 := ha3.r.frozen 1; have m30 := ha3.m.cell 0; have m31 := ha3.m.cell 1; simp at r30 r31 m30 m31; have HA3 := Lib.hid ha3; clear ha3 hb3)))
  have HG4 : Hid (GB w next A n c w3.heap.size nds [] (w3.alloc (.cells (noB n) 4))) := Lib.hid ⟨HA3.out.after (below_more (Below.refl _ _) _), by rw [← HNN.out]; exact BBlk.start w3 n, HA3.out.bel.size⟩
  generalize w3.alloc (.cells (noB n) 4) = X4 at HG4 ⊢
  generalize w3.heap.size = gb at HG4 ⊢
  have c0 := HG4.out.a.m.cell 0
  have c1 := HG4.out.a.m.cell 1
  simp at c0 c1
  go_upto_region 7 with (go_at_call 26; (with_reducible refine (HAi.out _ HG4.out.a.bel).mono ?_); go_must (rintro e w5 ⟨rfl, hb5⟩; have hg5 := HG4.out.after hb5; have e50 := hg5.g.cell (i := i) (by rw [goneB_len, HLN0.out]; exact hin); have e51 := hg5.fz i; have HG5 := Lib.hid hg5; clear hb5 hg5))
  have HG6 := Lib.hid (HG5.out.set hnr hig)
  rw [HIE.out, List.nil_append] at HG6
  generalize w5.setCell ⟨gb, i, none⟩ (.bool true) = X6 at HG6 ⊢
  clear c0 c1 e50 e51
  have c2 := HG6.out.a.m.cell 0
  have c3 := HG6.out.a.m.cell 1
  simp at c2 c3
  obtain ⟨lb, hlb⟩ : ∃ lb, belowV nds id = lb := ⟨_, rfl⟩
  rw [hlb] at HDn HBU HPB hll4
  clear hlb
  go_wp2_with (go_at_call 28; (with_reducible refine (HDn.out _ HG6.out.a.bel).mono ?_); go_must (rintro e w7 ⟨lv, rfl, hlv, hb7⟩; obtain ⟨Al, cl, rfl⟩ := own_form hlv; have HG7 := Lib.hid (HG6.out.after hb7); have HO7 := Lib.hid (own_mono hlv HG6.out.a.bel.size); clear hlv hb7))
  go_loopw [8] (fun v8 wr => ∃ (k : Nat), k ≤ lb.length ∧ v8 = .int .i64 k ∧ GB w next A n c gb nds (id :: lb.take k) wr ∧ wr.ownsRow w.heap.size 3 1 (.slice Al lb.length cl) lb.length (intCells lb)) (fun v _ => lb.length - (intOf v).toNat)
  case atStart => exact ⟨0, Nat.zero_le _, rfl, HG7.out, HO7.out⟩
  case round =>
    obtain ⟨k, hk, rfl, W1, W2⟩ := hrel
    have HW := Lib.hid (And.intro W1 W2)
    clear W1 W2
    rename World => wr
    by_cases hlt : k < lb.length
    · obtain ⟨y, hy⟩ : ∃ y, lb[k]? = some y := ⟨lb[k], List.getElem?_eq_getElem _⟩
      obtain ⟨j, nd', hj, hje⟩ := HBU.out y (List.mem_of_getElem? hy)
      have hjn : j < n := by rw [← HLN0.out]; exact (List.getElem?_eq_some_iff.1 hj).1
      have hjl : j < nds.length := (List.getElem?_eq_some_iff.1 hj).1
      subst hje
      obtain ⟨y, hyy⟩ : ∃ y, nd'.id = y := ⟨_, rfl⟩
      rw [hyy] at hy
      have HAyy : Hid (∀ X, Below w.heap.size w X → Calls Try.prog 26 #[.agg #[.int .i64 next, .slice A n c], .int .i64 y] X (Ret X (.int .i64 j))) := Lib.hid fun X hX => HAy.out X hX j y nd' hj hyy
      have HY := Lib.hid hy
      have HJE : Hid ((id :: lb.take k) ++ [nd'.id] = id :: (lb.take k ++ [y])) := Lib.hid (by rw [hyy]; rfl)
      obtain ⟨bl, ol, hAl, _, _, hcl⟩ := (own_row HW.out.2).2.2.2 (by omega)
      subst hAl
      have hlm := (own_row HW.out.2).2.2.1
      have hln := (own_row HW.out.2).2.1
      unfold maxLen at hlm
      have HSof : Hid (∀ X, (GB w next A n c gb nds (id :: lb.take k) X ∧ X.ownsRow w.heap.size 3 1 (.slice (some ⟨bl, ol, none⟩) lb.length cl) lb.length (intCells lb)) → X.cell? ⟨w.heap.size, 0, none⟩ = some (.int .i64 next) ∧ X.cell? ⟨w.heap.size, 1, none⟩ = some (.slice A n c) ∧ X.cell? ⟨bl, ol + k, none⟩ = some (.int .i64 y)) := Lib.hid fun X hX => by
        obtain ⟨b', o', he, _, _, hc'⟩ := (own_row hX.2).2.2.2 (by omega)
        injection he with he
        injection he with e1 e2
        subst e1 e2
        exact ⟨(hX.1.a.m.cell 0).trans rfl, (hX.1.a.m.cell 1).trans rfl, hc' k _ (intCells_get HY.out)⟩
      have HX := Lib.hid (And.intro (HW.out.1.after (below_drew1 wr)) (own_after HW.out.2 (below_drew1 wr)))
      clear hcl hy hyy
      go_upto_region 11 with (fail)
      refine wp_region_held_tail 8 (fun w' => w'.cell? ⟨w.heap.size, 0, none⟩ = some (.int .i64 next) ∧ w'.cell? ⟨w.heap.size, 1, none⟩ = some (.slice A n c) ∧ w'.cell? ⟨bl, ol + k, none⟩ = some (.int .i64 y)) (by kernel_rfl) (by kernel_rfl) ?hSt (fun hHeld => ?qt0)
      case hSt => exact HSof.out _ HX.out
      case qt0 =>
        generalize wr.drew = wz at HX hHeld ⊢
        simp only [List.take_succ_cons, List.take_zero, List.drop_succ_cons, List.drop_zero]
        refine wpAnyH_take (i := 0) (v := (.slice (some ⟨gb, 0, none⟩) n n)) rfl (by kernel_rfl) (by kernel_rfl) (by kernel_rfl) (fun _ _ _ h => h) (Or.inl ⟨by rfl, ?yt_1⟩) (by assumption) ?qt_1
        case yt_1 => (intro w hSw; (try dsimp only at hSw); go_simp)
        case qt_1 =>
          (try simp only [Act.put]); (try simp only [List.setIfInBounds_toArray])
          refine wpAnyH_take (i := 1) (v := (.agg #[.int .i64 next, .slice A n c])) rfl (by kernel_rfl) (by kernel_rfl) (by kernel_rfl) (fun _ _ _ h => h) (Or.inl ⟨by rfl, ?yt_2⟩) (by assumption) ?qt_2
          case yt_2 => (intro w hSw; (try dsimp only at hSw); go_simp)
          case qt_2 =>
            (try simp only [Act.put]); (try simp only [List.setIfInBounds_toArray])
            refine wpAnyH_take (i := 2) (v := (.slice (some ⟨bl, ol, none⟩) lb.length cl)) rfl (by kernel_rfl) (by kernel_rfl) (by kernel_rfl) (fun _ _ _ h => h) (Or.inl ⟨by rfl, ?yt_3⟩) (by assumption) ?qt_3
            case yt_3 => (intro w hSw; (try dsimp only at hSw); go_simp)
            case qt_3 =>
              (try simp only [Act.put]); (try simp only [List.setIfInBounds_toArray])
              refine wpAnyH_take (i := 3) (v := (.int .i64 k)) rfl (by kernel_rfl) (by kernel_rfl) (by kernel_rfl) (fun _ _ _ h => h) (Or.inl ⟨by rfl, ?yt_4⟩) (by assumption) ?qt_4
              case yt_4 => (intro w hSw; (try dsimp only at hSw); go_simp)
              case qt_4 =>
                (try simp only [Act.put]); (try simp only [List.setIfInBounds_toArray])
                refine wpAnyH_take (i := 4) (v := (.pointer (some ⟨bl, ol + k, none⟩))) rfl (by kernel_rfl) (by kernel_rfl) (by kernel_rfl) (fun _ _ _ h => h) (Or.inl ⟨by rfl, ?yt_5⟩) (by assumption) ?qt_5
                case yt_5 => (intro w hSw; (try dsimp only at hSw); go_simp)
                case qt_5 =>
                  (try simp only [Act.put]); (try simp only [List.setIfInBounds_toArray])
                  refine wpAnyH_take (i := 5) (v := (.int .i64 y)) rfl (by kernel_rfl) (by kernel_rfl) (by kernel_rfl) (fun _ _ _ h => h) (Or.inl ⟨by rfl, ?yt_6⟩) (by assumption) ?qt_6
                  case yt_6 => (intro w hSw; (try dsimp only at hSw); go_simp)
                  case qt_6 =>
                    (try simp only [Act.put]); (try simp only [List.setIfInBounds_toArray])
                    refine wpAnyH_ready (rs := [6]) (by kernel_rfl) (by simp) ?_
                    refine AllReadyH.cons rfl (fun K hK => ?st_7) ?mt_7
                    case st_7 =>
                      (refine step_call _ (by rfl) 26 #[.agg #[.int .i64 next, .slice A n c], .int .i64 y] (by go_simp) (HAyy.out _ HX.out.1.a.bel) ?_; rintro e Yb ⟨rfl, hbb⟩; refine ⟨_, rfl, ?_⟩; replace HX := Lib.hid (And.intro (HX.out.1.after hbb) (own_after HX.out.2 hbb)); clear hbb)
                      refine hK.out _ _ ?kt_7 (fun hHeld => ?qt_7)
                      case kt_7 => ((try dsimp only); exact HSof.out _ HX.out)
                      case qt_7 =>
                        clear hK K
                        (try simp only [Act.put]); (try simp only [List.setIfInBounds_toArray])
                        refine wpAnyH_take (i := 7) (v := (.pointer (some ⟨gb, j, none⟩))) rfl (by kernel_rfl) (by kernel_rfl) (by kernel_rfl) (fun _ _ _ h => h) (Or.inl ⟨by rfl, ?yt_8⟩) (by assumption) ?qt_8
                        case yt_8 => (intro w hSw; (try dsimp only at hSw); go_simp)
                        case qt_8 =>
                          (try simp only [Act.put]); (try simp only [List.setIfInBounds_toArray])
                          refine wpAnyH_done (by kernel_rfl) ?_ _
                          show wpList _ _ _ _ _ _
                          clear hHeld
                          have e60 := HX.out.1.g.cell (i := j) (by rw [goneB_len]; exact hjl)
                          have e61 := HX.out.1.fz j
                          have HX2 := Lib.hid (And.intro (HX.out.1.set hnr hj) (own_other HX.out.2 HX.out.1.g (by decide) j (.bool true)))
                          clear hj
                          go_wp2_with fail
                          go_roundw
                          case rel =>
                            refine ⟨k + 1, by omega, rfl, ?_, HX2.out.2⟩
                            rw [List.take_add_one, HY.out]
                            exact HJE.out ▸ HX2.out.1
                          case measure => simp [intOf]; omega
                    case mt_7 =>
                      exact AllReadyH.nil
    · have hkn : k = lb.length := by omega
      have HG8 : Hid (GB w next A n c gb nds (preI nds id) wr) := Lib.hid (by have := HW.out.1; rw [hkn, List.take_length, HPB.out] at this; exact this)
      subst hkn
      clear c2 c3 HW
      have c4 := HG8.out.a.m.cell 0
      have c5 := HG8.out.a.m.cell 1
      simp at c4 c5
      go_upto_region 13 with (go_at_call 30; (with_reducible refine (HTw.out _ HG8.out.a.bel).mono ?_); go_must (rintro e w9 ⟨ov0, l, rfl, hown9, hmap9, hb9⟩; obtain ⟨Ao, co, hov⟩ := own_form hown9.own; have hln9 : l.length = n := (by have := congrArg List.length hmap9; rw [List.length_map, HLN0.out] at this; exact this); rw [hln9] at hov; subst hov; have HLN := Lib.hid hln9; have HG9 := Lib.hid (HG8.out.after hb9); have HO9 := Lib.hid (hown9.mono HG8.out.a.bel.size); have HL9 := Lib.hid hmap9; clear hown9 hmap9 hb9 hln9))
      obtain ⟨g, hgA⟩ := own_some' HO9.out HLN.out (by omega)
      subst hgA
      have HG10 := Lib.hid (HG9.out.after (below_more (Below.refl _ _) (.cells #[.int .i64 next, .slice (some ⟨g, 0, none⟩) n co] 24)))
      have HO10 := Lib.hid (HO9.out.after (below_more (Below.refl _ _) (.cells #[.int .i64 next, .slice (some ⟨g, 0, none⟩) n co] 24)))
      have HA10 := Lib.hid (Blk.new w9 24 #[.int .i64 next, .slice (some ⟨g, 0, none⟩) n co])
      generalize w9.alloc (.cells #[.int .i64 next, .slice (some ⟨g, 0, none⟩) n co] 24) = X10 at HG10 HO10 HA10 ⊢
      generalize w9.heap.size = ga at HA10 ⊢
      clear c4 c5
      have g0 := HA10.out.cell 0
      have g1 := HA10.out.cell 1
      simp at g0 g1
      go_upto_region 14 with (go_at_call 31; (with_reducible refine (HTk.out _ _ _ _ HO10.out HLN.out HL9.out).mono ?_); go_must (rintro e w11 ⟨rfl, l', ho11, hg11, hm11⟩; have HG11 := Lib.hid (HG10.out.turned HO10.out hg11); have HA11 := Lib.hid (HA10.out.grown hg11 (Ne.symm (own_blk_ne HO10.out.own HA10.out (by decide)))); have HO11 := Lib.hid ho11; have HMT := Lib.hid hm11; clear ho11 hg11 hm11))
      have HLT : Hid (l'.length = n) := Lib.hid (by have := congrArg List.length HMT.out; rw [List.length_map, ← HTT.out, takeL_len, HLN0.out] at this; exact this)
      clear g0 g1
      have c6 := HG11.out.a.m.cell 0
      simp at c6
      go_upto_region 15 with (fail)
      have HL12 := Lib.hid (GL.start w11 next)
      generalize w11.alloc (.cells #[.int .i64 next, .slice none 0 0] 24) = X12 at HL12 ⊢
      clear c6
      have hgl : g < w11.heap.size := by
        obtain ⟨cs, hg, _, _⟩ := own_blk (n := n) (xs := allCells l') (by have := HO11.out.own; unfold OwnN at this; rw [HLT.out] at this; exact this)
        exact hg.lt
      have hnc2 : n ≤ co ∧ co ≤ maxLen := by have := (HO11.out.nodesIn HLT.out).2; exact ⟨this.1, this.2.1⟩
      unfold maxLen at hnc2
      have HGA : Hid (∀ X, Below w11.heap.size w11 X → X.cell? ⟨ga, 1, none⟩ = some (.slice (some ⟨g, 0, none⟩) n co)) := Lib.hid fun X hX => (Blk.cell (HA11.out.after hX) 1).trans rfl
      go_wp2_with fail
      go_loopw [11] (fun v11 wq => ∃ (k : Nat) (ov : Value), k ≤ n ∧ v11 = .int .i64 k ∧ GL w11 next ov (leftP (preI nds id) (l'.take k)) wq) (fun v _ => n - (intOf v).toNat)
      case atStart => exact ⟨0, _, Nat.zero_le _, rfl, HL12.out⟩
      case round =>
        obtain ⟨k, ov, hk, rfl, W⟩ := hrel
        obtain ⟨lo, hlo⟩ : ∃ lo, leftP (preI nds id) (l'.take k) = lo := ⟨_, rfl⟩
        rw [hlo] at W
        have hol : lo.length ≤ k := by
          rw [← hlo]
          have := leftP_len (preI nds id) (l'.take k)
          rw [List.length_take] at this
          omega
        have HLO := Lib.hid hlo
        have HQ := Lib.hid W
        clear W hlo
        rename World => wq
        have q1 := HGA.out _ HQ.out.b
        by_cases hlt : k < n
        · obtain ⟨q, hq⟩ : ∃ q, l'[k]? = some q := ⟨l'[k]'(by have := HLT.out; omega), List.getElem?_eq_getElem _⟩
          obtain ⟨nk, Lk⟩ := q
          have hcl : ∀ (j : Nat) u, j < 7 → (ndCells (nk, Lk))[j]? = some u → ∀ X, Below w11.heap.size w11 X → X.cell? ⟨g, k * 7 + j, none⟩ = some u := fun j u hj hu X hX => (hX.cell (p := ⟨g, _, none⟩) hgl).trans (HO11.out.cellT HLT.out hq hj hu).1
          have HSof2 : Hid (∀ X, Below w11.heap.size w11 X → Blk X w11.heap.size 24 #[.int .i64 next, ov] → X.cell? ⟨w11.heap.size, 1, none⟩ = some ov ∧ X.cell? ⟨ga, 1, none⟩ = some (.slice (some ⟨g, 0, none⟩) n co) ∧ X.cell? ⟨g, k * 7, none⟩ = some (.int .i64 nk.id) ∧ X.cell? ⟨g, k * 7 + 1, none⟩ = some (.string nk.con) ∧ X.cell? ⟨g, k * 7 + 2, none⟩ = some (.int .i64 nk.par) ∧ X.cell? ⟨g, k * 7 + 3, none⟩ = some (.string nk.role) ∧ X.cell? ⟨g, k * 7 + 4, none⟩ = some (.slice Lk.p.A Lk.p.n Lk.p.c) ∧ X.cell? ⟨g, k * 7 + 5, none⟩ = some (.slice Lk.k.A Lk.k.n Lk.k.c) ∧ X.cell? ⟨g, k * 7 + 6, none⟩ = some (.slice Lk.r.A Lk.r.n Lk.r.c)) := Lib.hid fun X hX ho => ⟨(ho.cell 1).trans rfl, HGA.out X hX, hcl 0 _ (by omega) rfl X hX, hcl 1 _ (by omega) rfl X hX, hcl 2 _ (by omega) rfl X hX, hcl 3 _ (by omega) rfl X hX, hcl 4 _ (by omega) rfl X hX, hcl 5 _ (by omega) rfl X hX, hcl 6 _ (by omega) rfl X hX⟩
          have htk : t[k]? = some nk := by rw [← HMT.out, List.getElem?_map, hq]; rfl
          obtain ⟨nd', hn1, hn2⟩ := HTI.out k nk htk
          have hgat := goneB_at (S := preI nds id) hn1
          rw [hn2] at hgat
          have hkl : k < (goneB nds (preI nds id)).length := by rw [goneB_len, HLN0.out]; exact hlt
          have q2 := (HQ.out.b.cell (p := ⟨gb, k, none⟩) (Blk.lt HG11.out.g)).trans (HG11.out.g.cell hkl)
          rw [hgat] at q2
          have HPK := Lib.hid hq
          clear hcl hgat hkl htk hn1 hn2 hq
          cases hcn : (preI nds id).contains nk.id with
          | true =>
            rw [hcn] at q2
            have HCN := Lib.hid hcn
            clear hcn
            go_wp2_with fail
            go_roundw
            case rel =>
              refine ⟨k + 1, ov, by omega, rfl, ?_⟩
              rw [leftP_succ _ _ HPK.out, HCN.out, if_pos rfl, List.append_nil, HLO.out]
              exact HQ.out
            case measure => simp [intOf]; omega
          | false =>
            rw [hcn] at q2
            have HCN := Lib.hid hcn
            clear hcn
            have HX := Lib.hid (HQ.out.after (below_drew1 wq))
            go_upto_region 19 with (fail)
            clear q1 q2
            refine wp_region_held_tail 9 (fun w' => w'.cell? ⟨w11.heap.size, 1, none⟩ = some ov ∧ w'.cell? ⟨ga, 1, none⟩ = some (.slice (some ⟨g, 0, none⟩) n co) ∧ w'.cell? ⟨g, k * 7, none⟩ = some (.int .i64 nk.id) ∧ w'.cell? ⟨g, k * 7 + 1, none⟩ = some (.string nk.con) ∧ w'.cell? ⟨g, k * 7 + 2, none⟩ = some (.int .i64 nk.par) ∧ w'.cell? ⟨g, k * 7 + 3, none⟩ = some (.string nk.role) ∧ w'.cell? ⟨g, k * 7 + 4, none⟩ = some (.slice Lk.p.A Lk.p.n Lk.p.c) ∧ w'.cell? ⟨g, k * 7 + 5, none⟩ = some (.slice Lk.k.A Lk.k.n Lk.k.c) ∧ w'.cell? ⟨g, k * 7 + 6, none⟩ = some (.slice Lk.r.A Lk.r.n Lk.r.c)) (by kernel_rfl) (by kernel_rfl) ?hSu (fun hHeld => ?qu0)
            case hSu => exact HSof2.out _ HX.out.b HX.out.o
            case qu0 =>
              generalize wq.drew = wz at HX hHeld ⊢
              simp only [List.take_succ_cons, List.take_zero, List.drop_succ_cons, List.drop_zero]
              refine wpAnyH_take (i := 0) (v := (.pointer (some ⟨w11.heap.size, 1, none⟩))) rfl (by kernel_rfl) (by kernel_rfl) (by kernel_rfl) (fun _ _ _ h => h) (Or.inl ⟨by rfl, ?yu_1⟩) (by assumption) ?qu_1
              case yu_1 => (intro w hSw; (try dsimp only at hSw); go_simp)
              case qu_1 =>
                (try simp only [Act.put]); (try simp only [List.setIfInBounds_toArray])
                refine wpAnyH_take (i := 1) (v := ov) rfl (by kernel_rfl) (by kernel_rfl) (by kernel_rfl) (fun _ _ _ h => h) (Or.inl ⟨by rfl, ?yu_2⟩) (by assumption) ?qu_2
                case yu_2 => (intro w hSw; (try dsimp only at hSw); go_simp)
                case qu_2 =>
                  (try simp only [Act.put]); (try simp only [List.setIfInBounds_toArray])
                  refine wpAnyH_take (i := 2) (v := (.pointer (some ⟨ga, 1, none⟩))) rfl (by kernel_rfl) (by kernel_rfl) (by kernel_rfl) (fun _ _ _ h => h) (Or.inl ⟨by rfl, ?yu_3⟩) (by assumption) ?qu_3
                  case yu_3 => (intro w hSw; (try dsimp only at hSw); go_simp)
                  case qu_3 =>
                    (try simp only [Act.put]); (try simp only [List.setIfInBounds_toArray])
                    refine wpAnyH_take (i := 3) (v := (.slice (some ⟨g, 0, none⟩) n co)) rfl (by kernel_rfl) (by kernel_rfl) (by kernel_rfl) (fun _ _ _ h => h) (Or.inl ⟨by rfl, ?yu_4⟩) (by assumption) ?qu_4
                    case yu_4 => (intro w hSw; (try dsimp only at hSw); go_simp)
                    case qu_4 =>
                      (try simp only [Act.put]); (try simp only [List.setIfInBounds_toArray])
                      refine wpAnyH_take (i := 4) (v := (.int .i64 k)) rfl (by kernel_rfl) (by kernel_rfl) (by kernel_rfl) (fun _ _ _ h => h) (Or.inl ⟨by rfl, ?yu_5⟩) (by assumption) ?qu_5
                      case yu_5 => (intro w hSw; (try dsimp only at hSw); go_simp)
                      case qu_5 =>
                        (try simp only [Act.put]); (try simp only [List.setIfInBounds_toArray])
                        refine wpAnyH_take (i := 5) (v := (.pointer (some ⟨g, k * 7, none⟩))) rfl (by kernel_rfl) (by kernel_rfl) (by kernel_rfl) (fun _ _ _ h => h) (Or.inl ⟨by rfl, ?yu_6⟩) (by assumption) ?qu_6
                        case yu_6 => (intro w hSw; (try dsimp only at hSw); go_simp)
                        case qu_6 =>
                          (try simp only [Act.put]); (try simp only [List.setIfInBounds_toArray])
                          refine wpAnyH_take (i := 6) (v := (.agg #[.int .i64 nk.id, .string nk.con, .int .i64 nk.par, .string nk.role, .slice Lk.p.A Lk.p.n Lk.p.c, .slice Lk.k.A Lk.k.n Lk.k.c, .slice Lk.r.A Lk.r.n Lk.r.c])) rfl (by kernel_rfl) (by kernel_rfl) (by kernel_rfl) (fun _ _ _ h => h) (Or.inl ⟨by rfl, ?yu_7⟩) (by assumption) ?qu_7
                          case yu_7 => (intro w hSw; (try dsimp only at hSw); go_simp)
                          case qu_7 =>
                            (try simp only [Act.put]); (try simp only [List.setIfInBounds_toArray])
                            refine wpAnyH_ready (rs := [7]) (by kernel_rfl) (by simp) ?_
                            refine AllReadyH.cons rfl (fun K hK => ?su_8) ?mu_8
                            case su_8 =>
                              (go_simp; have HXa := Lib.hid (HX.out.after (below_more (Below.refl _ _) (.cells #[.int .i64 nk.id, .string nk.con, .int .i64 nk.par, .string nk.role, .slice Lk.p.A Lk.p.n Lk.p.c, .slice Lk.k.A Lk.k.n Lk.k.c, .slice Lk.r.A Lk.r.n Lk.r.c] 44))); have HNb := Lib.hid (Blk.new wz 44 #[.int .i64 nk.id, .string nk.con, .int .i64 nk.par, .string nk.role, .slice Lk.p.A Lk.p.n Lk.p.c, .slice Lk.k.A Lk.k.n Lk.k.c, .slice Lk.r.A Lk.r.n Lk.r.c]))
                              refine hK.out _ _ ?ku_8 (fun hHeld => ?qu_8)
                              case ku_8 => ((try dsimp only); first | exact HSof2.out _ HX2.out.1 HX2.out.2 | exact HSof2.out _ HXa.out.b HXa.out.o | exact HSof2.out _ HX.out.b HX.out.o)
                              case qu_8 =>
                                clear hK K
                                (try simp only [Act.put]); (try simp only [List.setIfInBounds_toArray])
                                refine wpAnyH_ready (rs := [8]) (by kernel_rfl) (by simp) ?_
                                refine AllReadyH.cons rfl (fun K hK => ?su_9) ?mu_9
                                case su_9 =>
                                  (refine step_app_mark _ (by rfl) (.tmp 68) (.tmp 74) _ (by rfl) (w11.heap.size + 1) 44 i0 _ 7 120 Try.underlying22 hi0' hz0 hz1 hz2 rfl (by omega) ov lo.length (allCells lo) (by rfl) HXa.out.own _ (ndCells (nk, Lk)) (by rfl) HNb.out rfl (by simp [ndCells, Value.oneCell']) (by unfold maxLen; omega) (by omega) HXa.out.o.lt ?_; intro G1 cap1 w2 hown2 _ hca1 hca2 hgr2; have HX2 := Lib.hid (HXa.out.kept hgr2))
                                  refine hK.out _ _ ?ku_9 (fun hHeld => ?qu_9)
                                  case ku_9 => ((try dsimp only); first | exact HSof2.out _ HX2.out.1 HX2.out.2 | exact HSof2.out _ HXa.out.b HXa.out.o | exact HSof2.out _ HX.out.b HX.out.o)
                                  case qu_9 =>
                                    clear hK K
                                    (try simp only [Act.put]); (try simp only [List.setIfInBounds_toArray])
                                    refine wpAnyH_done (by kernel_rfl) ?_ _
                                    obtain ⟨hB1, hB2, _⟩ := hHeld
                                    have o7 := HX2.out.2.cell 1
                                    have f7 := HX2.out.2.frozen 1
                                    simp at o7
                                    have HX9 := Lib.hid (HXa.out.push hgr2 hown2)
                                    clear hown2 hgr2
                                    show wpList _ _ _ _ _ _
                                    go_wp2_with fail
                                    go_roundw
                                    case rel =>
                                      refine ⟨k + 1, .slice (some ⟨G1, 0, none⟩) (lo.length + 1) cap1, by omega, rfl, ?_⟩
                                      rw [leftP_succ _ _ HPK.out, HCN.out, if_neg (by decide), HLO.out]
                                      exact HX9.out
                                    case measure => simp [intOf]; omega
                                case mu_9 =>
                                  exact AllReadyH.nil
                            case mu_8 =>
                              exact AllReadyH.nil
        · have hkn : k = n := by omega
          subst hkn
          have hlf : lo = leftP (preI nds id) l' := by rw [← HLO.out, List.take_of_length_le (by rw [HLT.out]; omega)]
          have HLF := Lib.hid hlf
          obtain ⟨Av, cv, hv⟩ := own_form HQ.out.own
          subst hv
          have hmem : ∀ q ∈ lo, q ∈ l' := fun q hq => by rw [hlf] at hq; exact (List.mem_filter.1 hq).1
          have HOO : Hid (OwnM wq w.heap.size (.slice Av lo.length cv) lo) := Lib.hid ⟨own_mono HQ.out.own (Nat.le_trans HG11.out.a.bel.size (Nat.le_succ _)), fun q hq => (HO11.out.leaf q (hmem q hq)).after HQ.out.b⟩
          have HAA := Lib.hid (HG11.out.a.after HQ.out.b)
          have d0 := HAA.out.r.cell 0
          have d1 := HAA.out.r.cell 1
          have d2 := HAA.out.r.frozen 0
          have d3 := HAA.out.r.frozen 1
          have d4 := HQ.out.o.cell 0
          have d5 := HQ.out.o.cell 1
          simp at d0 d1 d4 d5
          clear hmem hlf
          go_wp2_with fail
          (try rw [Exit.noGoto_ret])
          (try simp only [Exit.inBlock, Exit.then])
          refine bodyPost_ret (v := .tuple #[.agg #[.int .i64 next, .slice Av lo.length cv], .int .i64 0]) ?hr rfl ?_
          case hr =>
            simp only [results, hres]
            go_simp
          rw [HE.out]
          refine ⟨next, Av, lo.length, cv, rfl, (HAA.out.bel.setCell (p := ⟨w.heap.size + 1, 0, none⟩) (by simp) _).setCell (p := ⟨w.heap.size + 1, 1, none⟩) (by simp) _, fun h => absurd rfl h, fun _ => ⟨rfl, lo, (HOO.out.other HAA.out.r 0 _).other (HAA.out.r.set_ 0 _) 1 _, rfl, ?_⟩⟩
          rw [HRL.out, HLF.out, leftP_map, HMT.out]
/-- Remove of the document -/
theorem refRemove_any (w : World) (hi : Nat) (next id : Int) (A : Option Addr) (n c : Nat) (nds : List Nd) (h : NodesIn w 0 hi A n c nds) (hh : hi ≤ w.heap.size) (hf : ∀ nd ∈ nds, Fits 1 nd) :
    Calls Try.prog 11 #[.agg #[.int .i64 next, .slice A n c], .int .i64 id] w (SetPost w next (removeE next nds id) (removeL nds id)) := by
  cases hr : rightB next nds with
  | false => exact refRemove_e29 w hi next id A n c nds h hh hr
  | true =>
    cases hx : ndOf nds id with
    | none => exact refRemove_e20 w hi next id A n c nds h hh hr hx
    | some nd => exact refRemove_yes w hi next id A n c nds h hh hf hr nd hx
end Go.Proofs.Ytfljndlmafcjeaa
namespace Go.Proofs.Ytfljndlmafcjeaa
open Go Go.RowKit Go.Sort
set_option linter.unusedVariables false
attribute [local go_sem ↓] Go.wp_at_zero Go.wp_at_succ
set_option maxRecDepth 20000 in
set_option maxHeartbeats 1600000 in
/-- the closure: is the node's number among those that go? -/
theorem remove1_any (w : World) (gg lo hi : Nat) (A : Option Addr) (n c : Nat) (zs : List Int) (nd : Nd) (L : Leaf) (hb : w.cell? ⟨gg, 0, none⟩ = some (.slice A n c)) (hg : gg < w.heap.size) (hz : Row w lo hi 1 A n c (intCells zs)) (hh : hi ≤ w.heap.size) (hs : zs.Pairwise (· ≤ ·)) (hl : 0 < zs.length) (hl4 : zs.length ≤ 4096) :
    Calls Try.prog 39 #[.agg #[.int .i64 nd.id, .string nd.con, .int .i64 nd.par, .string nd.role, .slice L.p.A L.p.n L.p.c, .slice L.k.A L.k.n L.k.c, .slice L.r.A L.r.n L.r.c], .pointer (some ⟨gg, 0, none⟩)] w (Ret w (.bool (zs.contains nd.id))) := by
  have hzn : n = zs.length := by have := hz.1; rw [intCells_length] at this; omega
  obtain ⟨b, o, rfl, _, hbh, hzc⟩ := hz.at_ (by omega)
  have HBS : Hid (∀ X, Below w.heap.size w X → Calls Try.prog 40 #[.slice (some ⟨b, o, none⟩) n c, .int .i64 nd.id] X fun e w' => (∃ k : Nat, e = .returned (.tuple #[.int .i64 k, .bool (zs.contains nd.id)])) ∧ ∃ q, w' = X.drewN q) := Lib.hid fun X hX => by
    have h1 := Try.slices_BinarySearch_int b o n c zs nd.id X (by omega) (by omega) (fun j hj => by
      rw [hX.cell (p := ⟨b, o + j, none⟩) (Nat.lt_of_lt_of_le hbh hh)]
      exact hzc j _ (intCells_get (by rw [List.getD_eq_getElem?_getD, List.getElem?_eq_getElem hj]; rfl))) (by rw [List.take_of_length_le (by omega)]; exact hs)
    rw [List.take_of_length_le (by omega)] at h1
    exact h1.mono fun e w' h2 => ⟨⟨_, h2.1⟩, h2.2⟩
  obtain ⟨ans, hans⟩ : ∃ a, zs.contains nd.id = a := ⟨_, rfl⟩
  rw [hans] at HBS ⊢
  clear hzc hs hans hz hzn hl hl4
  go_enter Try.func39, Try.ntmps39
  go_upto_region 1 with (fail)
  have HX := Lib.hid (below_more (Below.refl w.heap.size w) (.cells #[.int .i64 nd.id, .string nd.con, .int .i64 nd.par, .string nd.role, .slice L.p.A L.p.n L.p.c, .slice L.k.A L.k.n L.k.c, .slice L.r.A L.r.n L.r.c] 44))
  have HNb := Lib.hid (Blk.new w 44 #[.int .i64 nd.id, .string nd.con, .int .i64 nd.par, .string nd.role, .slice L.p.A L.p.n L.p.c, .slice L.k.A L.k.n L.k.c, .slice L.r.A L.r.n L.r.c])
  generalize w.alloc (.cells #[.int .i64 nd.id, .string nd.con, .int .i64 nd.par, .string nd.role, .slice L.p.A L.p.n L.p.c, .slice L.k.A L.k.n L.k.c, .slice L.r.A L.r.n L.r.c] 44) = X1 at HX HNb ⊢
  have c0 := HNb.out.cell 0
  simp at c0
  have c1 := (HX.out.cell (p := ⟨gg, 0, none⟩) hg).trans hb
  clear hb
  go_wp2_with (go_at_call 40; (with_reducible refine (HBS.out _ HX.out).mono ?_); go_must (rintro e w2 ⟨⟨k, rfl⟩, q, rfl⟩))
  go_ret
  exact ⟨rfl, below_drewN HX.out q⟩
section
variable {w X X' : World} {B g n c : Nat} {l : List (Nd × Leaf)}
/-- the numbers that go rise, and are some -/
def RemC (w : World) (g gg : Nat) (zs : List Int) : Prop := ∀ X, w.grownBy X (some g) → ∀ (nd : Nd) (L : Leaf), Calls Try.prog 39 #[.agg #[.int .i64 nd.id, .string nd.con, .int .i64 nd.par, .string nd.role, .slice L.p.A L.p.n L.p.c, .slice L.k.A L.k.n L.k.c, .slice L.r.A L.r.n L.r.c], .pointer (some ⟨gg, 0, none⟩)] X (Ret X (.bool (zs.contains nd.id)))
theorem RemC.yes {gg : Nat} {zs : List Int} (h : RemC w g gg zs) (hg : w.grownBy X (some g)) {nd : Nd} {b : Bool} (hb : zs.contains nd.id = b) (L : Leaf) :
    Calls Try.prog 39 #[.agg #[.int .i64 nd.id, .string nd.con, .int .i64 nd.par, .string nd.role, .slice L.p.A L.p.n L.p.c, .slice L.k.A L.k.n L.k.c, .slice L.r.A L.r.n L.r.c], .pointer (some ⟨gg, 0, none⟩)] X (Ret X (.bool b)) := by
  subst hb
  exact h X hg nd L
end
set_option maxRecDepth 20000 in
set_option maxHeartbeats 1600000 in
theorem indexGone_any (w : World) (B g n c gg k : Nat) (l : List (Nd × Leaf)) (zs : List Int) (h : OwnM w B (.slice (some ⟨g, 0, none⟩) n c) l) (hn : l.length = n) (hn4 : n ≤ 4096) (hC : RemC w g gg zs) (hk : k < n)
    (hfirst : ∀ j q, j < k → l[j]? = some q → zs.contains q.1.id = false) (hat : ∀ q, l[k]? = some q → zs.contains q.1.id = true) :
    Calls Try.prog 62 #[.slice (some ⟨g, 0, none⟩) n c, .func (.func 39) #[] #[.pointer (some ⟨gg, 0, none⟩)]] w (Ret w (.int .i64 k)) := by
  have HW := Lib.hid h
  have HLN := Lib.hid hn
  have HC := Lib.hid hC
  have HF := Lib.hid hfirst
  have HA := Lib.hid hat
  have hnc : n ≤ c := (h.nodesIn hn).2.1
  have hcm := (h.nodesIn hn).2.2.1
  unfold maxLen at hcm
  clear h hn hC hfirst hat
  go_enter Try.func62, Try.ntmps62
  go_wp2_with fail
  go_loopw [8] (fun v8 wr => ∃ i : Nat, i ≤ k ∧ v8 = .int .i64 i ∧ Below w.heap.size w wr) (fun v _ => n - (intOf v).toNat)
  case atStart => exact ⟨0, Nat.zero_le _, rfl, Below.refl _ _⟩
  case round =>
    obtain ⟨i, hi, rfl, hB⟩ := hrel
    rename World => wr
    have HB := Lib.hid hB
    have HG : Hid (w.grownBy wr (some g)) := Lib.hid ⟨hB.os, hB.tape, hB.output, hB.size, fun j hj _ => hB.block j hj⟩
    clear hB
    have hlt : i < n := by omega
    obtain ⟨q, hq⟩ : ∃ q, l[i]? = some q := ⟨l[i]'(by have := HLN.out; omega), List.getElem?_eq_getElem _⟩
    obtain ⟨nd, L⟩ := q
    have HWr := HW.out.after HB.out
    have d0 := (HWr.cellT HLN.out hq (j := 0) (by omega) rfl).1
    have d1 := (HWr.cellT HLN.out hq (j := 1) (by omega) rfl).1
    have d2 := (HWr.cellT HLN.out hq (j := 2) (by omega) rfl).1
    have d3 := (HWr.cellT HLN.out hq (j := 3) (by omega) rfl).1
    have d4 := (HWr.cellT HLN.out hq (j := 4) (by omega) rfl).1
    have d5 := (HWr.cellT HLN.out hq (j := 5) (by omega) rfl).1
    have d6 := (HWr.cellT HLN.out hq (j := 6) (by omega) rfl).1
    simp only [Nat.add_zero] at d0
    have HQ := Lib.hid hq
    clear HWr hq
    by_cases hik : i = k
    · subst hik
      have HCq := Lib.hid (HC.out.yes HG.out (HA.out _ HQ.out) L)
      go_wp2_with (go_at_call 39; (with_reducible refine HCq.out.mono ?_); go_must (rintro e w2 ⟨rfl, hb2⟩))
      go_ret
      exact ⟨rfl, HB.out.trans (hb2.mono HB.out.size)⟩
    · have HCq := Lib.hid (HC.out.yes HG.out (HF.out i _ (by omega) HQ.out) L)
      go_wp2_with (go_at_call 39; (with_reducible refine HCq.out.mono ?_); go_must (rintro e w2 ⟨rfl, hb2⟩; have HB2 := Lib.hid (HB.out.trans (hb2.mono HB.out.size)); clear hb2))
      go_roundw
      case rel => exact ⟨i + 1, by omega, by simp, HB2.out⟩
      case measure => simp [intOf]; omega
end Go.Proofs.Ytfljndlmafcjeaa

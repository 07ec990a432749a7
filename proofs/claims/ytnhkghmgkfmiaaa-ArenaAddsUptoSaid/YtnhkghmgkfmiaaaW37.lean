/-
  WALKS: the document's: a node is added.
-/
import Derived.Test.YtnhkghmgkfmiaaaW36
namespace Go.Proofs.Ytnhkghmgkfmiaaa
open Go Go.RowKit Go.Sort
set_option linter.unusedVariables false
attribute [local go_sem ↓] Go.wp_at_zero Go.wp_at_succ

structure TO (w : World) (next : Int) (A : Option Addr) (n c go : Nat) (nx : Int) (v : Value) (l : List (Nd × Leaf)) (X : World) : Prop where
  a : A0 w next A n c X
  out : Blk X go 24 #[.int .i64 nx, v]
  own : OwnM X w.heap.size v l
  le : w.heap.size ≤ go
  n1 : w.heap.size ≠ go
  n2 : w.heap.size + 1 ≠ go
section
variable {w X X' : World} {next nx : Int} {A : Option Addr} {n c go : Nat} {v : Value} {l : List (Nd × Leaf)}
theorem TO.after (h : TO w next A n c go nx v l X) (hb : Below X.heap.size X X') : TO w next A n c go nx v l X' := ⟨h.a.after hb, h.out.after hb, h.own.after hb, h.le, h.n1, h.n2⟩
theorem A0.kept {n' : Nat} {v' : Value} {xs : List Value} (h : A0 w next A n c X) (hown : X.ownsRow w.heap.size 59 7 v' n' xs) (hg : X.grownBy X' v'.ownBlock) : A0 w next A n c X' :=
  ⟨h.m.grown hg (Ne.symm (own_blk_ne hown h.m (by decide))), h.r.grown hg (Ne.symm (own_blk_ne hown h.r (by decide))), below_grows h.bel hg hown (Nat.le_refl _)⟩
theorem to_set (ab : A0 w next A n c X) (out : Blk X go 24 #[.int .i64 nx, v]) (le : w.heap.size ≤ go) (n1 : w.heap.size ≠ go) (n2 : w.heap.size + 1 ≠ go) (i : Nat) (u : Value) {nx' : Int} {v' : Value} (he : (#[Value.int .i64 nx, v] : Array Value).setIfInBounds i u = #[.int .i64 nx', v']) {l' : List (Nd × Leaf)} (ho : OwnM X w.heap.size v' l') :
    TO w next A n c go nx' v' l' (X.setCell ⟨go, i, none⟩ u) :=
  ⟨⟨ab.m.far (p := ⟨go, i, none⟩) n1 u, ab.r.far (p := ⟨go, i, none⟩) n2 u, ab.bel.setCell (p := ⟨go, i, none⟩) le u⟩, he ▸ out.set_ i u, ho.other out i u, le, n1, n2⟩
end
/-- the node that has come is put -/
theorem refPutNew (X9 : World) (B : Nat) (next parent at_ ri : Int) (role con : ByteArray) (G7 cap7 : Nat) (nds : List Nd) (l : List (Nd × Leaf)) (hown : OwnM X9 B (.slice (some ⟨G7, 0, none⟩) (l.length + 1) cap7) (l ++ [(newNd next con, (⟨⟨none, 0, 0⟩, ⟨none, 0, 0⟩, ⟨none, 0, 0⟩⟩ : Leaf))])) (hrm : RightM next nds) (hl4 : l.map (·.1) = nds) (hs : role.size ≤ maxLen) (hn : l.length + 1 ≤ 4096)
    (hP : parent ≠ 0 → ∃ (x : Nd) (jj a : Nat), ndOf nds parent = some x ∧ ixOf nds parent = some jj ∧ nds[jj]? = some x ∧ x.id = parent ∧ ri = a ∧ a ≤ x.kids.length ∧ KOk nds x ∧ beforeV (inRoleB nds role) at_ x.kids = a) (hPr : parent = 0 → role = ⟨#[]⟩) :
    Calls Try.prog 65 #[.agg #[.int .i64 (next + 1), .slice (some ⟨G7, 0, none⟩) (l.length + 1) cap7], .int .i64 next, .int .i64 parent, .string role, .int .i64 at_] X9 (PutPost X9 B G7 (l.length + 1) cap7 (addL next nds parent role con ri.toNat)) := by
  have hnl : nds.length = l.length := by rw [← hl4, List.length_map]
  have hll : (l ++ [(newNd next con, (⟨⟨none, 0, 0⟩, ⟨none, 0, 0⟩, ⟨none, 0, 0⟩⟩ : Leaf))]).length = l.length + 1 := by simp
  have hget : (l ++ [(newNd next con, (⟨⟨none, 0, 0⟩, ⟨none, 0, 0⟩, ⟨none, 0, 0⟩⟩ : Leaf))])[l.length]? = some (newNd next con, ⟨⟨none, 0, 0⟩, ⟨none, 0, 0⟩, ⟨none, 0, 0⟩⟩) := by simp
  have hmap : (l ++ [(newNd next con, (⟨⟨none, 0, 0⟩, ⟨none, 0, 0⟩, ⟨none, 0, 0⟩⟩ : Leaf))]).map (·.1) = nds ++ [newNd next con] := by rw [List.map_append, hl4]; rfl
  have hrise : Rise (nds ++ [newNd next con]) := rise_more hrm.rise hrm.lo hrm.lt
  by_cases hp0 : parent = 0
  · subst hp0
    refine refPutRoot_any X9 B (next + 1) next at_ role G7 (l.length + 1) cap7 _ hown hll hn (by rw [hmap]; exact hrise) l.length _ hget rfl (hPr rfl) _ ?_
    rw [hmap]
    unfold addL
    rw [if_pos rfl, hnl]
  · obtain ⟨x, jj, a, q1, q2, q3, q4, q5, q6, q7, q8⟩ := hP hp0
    have hj : jj < l.length := by rw [← hnl]; exact (List.getElem?_eq_some_iff.1 q3).1
    obtain ⟨M, hM⟩ : ∃ M, l[jj]? = some (x, M) := by
      have h1 : (l.map (·.1))[jj]? = some x := by rw [hl4]; exact q3
      rw [List.getElem?_map] at h1
      obtain ⟨⟨x', M⟩, h2, h3⟩ := Option.map_eq_some_iff.1 h1
      simp only at h3
      subst h3
      exact ⟨M, h2⟩
    refine refPut_any X9 B (next + 1) next parent at_ role G7 (l.length + 1) cap7 _ hown hll hn (by rw [hmap]; exact hrise) l.length _ hget rfl hs jj a x M hp0 (by rw [List.getElem?_append_left hj]; exact hM) q4 (by omega) q6 ?_ ?_ _ ?_
    · rw [hmap]; exact kOk_more q7 hrm.lo hrm.lt (by omega)
    · rw [hmap, before_congr (inRole_more q7 role)]; exact q8
    · rw [hmap]
      unfold addL
      rw [if_neg hp0, hnl, q1, q2, q5, Int.toNat_natCast]
      rfl

set_option maxRecDepth 100000 in
set_option maxHeartbeats 6400000 in
theorem refAdd_any (w : World) (hi : Nat) (next parent at_ : Int) (role con : ByteArray) (A : Option Addr) (n c : Nat) (nds : List Nd) (h : NodesIn w 0 hi A n c nds) (hh : hi ≤ w.heap.size) (hs : role.size ≤ maxLen) (hs2 : con.size ≤ maxLen) (hf : ∀ nd ∈ nds, Fits 1 nd) :
    Calls Try.prog 19 #[.agg #[.int .i64 next, .slice A n c], .int .i64 parent, .string role, .int .i64 at_, .string con] w (AddPost w next nds parent role at_ con) := by
  have hres : Try.f19.results = #[.cell 10 24, .tmp 11, .tmp 12] := by kernel_rfl
  have HA0 := Lib.hid (A0.start w next A n c)
  have HRi : Hid (∀ X, Below w.heap.size w X → Calls Try.prog 53 #[.agg #[.int .i64 next, .slice A n c]] X (Ret X (.bool (rightB next nds)))) := Lib.hid fun X hX => refRight_any X hi next A n c nds (h.below (hX.mono hh)) (Nat.le_trans hh hX.size)
  cases hr : rightB next nds with
  | false =>
    have HE : Hid (addE next nds parent role at_ con = 29) := Lib.hid (by unfold addE; rw [if_pos hr])
    rw [hr] at HRi
    clear h hf hr
    go_enter Try.func19, Try.ntmps19
    go_wp2_with (go_at_call 53; go_must (refine (HRi.out _ HA0.out.bel).mono ?_; rintro e w1 ⟨rfl, hb1⟩; have ha1 := HA0.out.after hb1; have r0 := ha1.r.cell 0; have r1 := ha1.r.cell 1; have r2 := ha1.r.frozen 0; have r3 := ha1.r.frozen 1; have r4 := ha1.m.cell 0; have r5 := ha1.m.cell 1; simp at r0 r1 r4 r5; have HA1 := Lib.hid ha1; clear ha1 hb1))
    (try rw [Exit.noGoto_ret])
    (try simp only [Exit.inBlock, Exit.then])
    refine bodyPost_ret (v := .tuple #[.agg #[.int .i64 0, .slice none 0 0], .int .i64 0, .int .i64 29]) ?hr rfl ?_
    case hr =>
      simp only [results, hres]
      go_simp
    exact ⟨(HA1.out.bel.setCell (p := ⟨w.heap.size + 1, 0, none⟩) (by simp) _).setCell (p := ⟨w.heap.size + 1, 1, none⟩) (by simp) _, .inl ⟨by rw [HE.out]; decide, by rw [HE.out]⟩⟩
  | true =>
    have hrm := rightM hr
    rw [hr] at HRi
    have HW : Hid (∀ X, Calls Try.prog 13 #[.string con] X (Says X (wordB con))) := Lib.hid fun X => refWord_any con X hs2
    have HV : Hid (∀ X, Calls Try.prog 13 #[.string role] X (Says X (wordB role))) := Lib.hid fun X => refWord_any role X hs
    cases hwd : (wordB con && (parent == 0 || wordB role)) with
    | false =>
      have HE : Hid (addE next nds parent role at_ con = 2) := Lib.hid (by unfold addE; rw [if_neg (by rw [hr]; simp), if_pos hwd])
      cases hwc : wordB con with
      | false =>
        rw [hwc] at HW
        clear h hf hrm hwd hwc
        go_enter Try.func19, Try.ntmps19
        go_wp2_with (first | (go_at_call 53; go_must (refine (HRi.out _ HA0.out.bel).mono ?_; rintro e w1 ⟨rfl, hb1⟩; have ha1 := HA0.out.after hb1; have r0 := ha1.r.cell 0; have r1 := ha1.r.cell 1; have r2 := ha1.r.frozen 0; have r3 := ha1.r.frozen 1; have r4 := ha1.m.cell 0; have r5 := ha1.m.cell 1; simp at r0 r1 r4 r5; have HA1 := Lib.hid ha1; clear ha1 hb1)) | (go_at_call_has 13 con; go_must (refine (HW.out _).mono ?_; rintro e w2 ⟨rfl, rfl⟩)))
        (try rw [Exit.noGoto_ret])
        (try simp only [Exit.inBlock, Exit.then])
        refine bodyPost_ret (v := .tuple #[.agg #[.int .i64 0, .slice none 0 0], .int .i64 0, .int .i64 2]) ?hr rfl ?_
        case hr =>
          simp only [results, hres]
          go_simp
        exact ⟨(HA1.out.bel.setCell (p := ⟨w.heap.size + 1, 0, none⟩) (by simp) _).setCell (p := ⟨w.heap.size + 1, 1, none⟩) (by simp) _, .inl ⟨by rw [HE.out]; decide, by rw [HE.out]⟩⟩
      | true =>
        rw [hwc] at HW hwd
        have hp : (parent != 0) = true ∧ wordB role = false := by
          have h1 : (parent == 0 || wordB role) = false := by simpa using hwd
          rw [Bool.or_eq_false_iff] at h1
          exact ⟨by rw [bne_iff_ne]; exact beq_eq_false_iff_ne.1 h1.1, h1.2⟩
        obtain ⟨d0, d1⟩ := hp
        rw [d1] at HV
        clear h hf hrm hwd hwc
        go_enter Try.func19, Try.ntmps19
        go_wp2_with (first | (go_at_call 53; go_must (refine (HRi.out _ HA0.out.bel).mono ?_; rintro e w1 ⟨rfl, hb1⟩; have ha1 := HA0.out.after hb1; have r0 := ha1.r.cell 0; have r1 := ha1.r.cell 1; have r2 := ha1.r.frozen 0; have r3 := ha1.r.frozen 1; have r4 := ha1.m.cell 0; have r5 := ha1.m.cell 1; simp at r0 r1 r4 r5; have HA1 := Lib.hid ha1; clear ha1 hb1)) | (go_at_call_has 13 con; go_must (refine (HW.out _).mono ?_; rintro e w2 ⟨rfl, rfl⟩)) | (go_at_call 13; go_must (refine (HV.out _).mono ?_; rintro e w2 ⟨rfl, rfl⟩)))
        (try rw [Exit.noGoto_ret])
        (try simp only [Exit.inBlock, Exit.then])
        refine bodyPost_ret (v := .tuple #[.agg #[.int .i64 0, .slice none 0 0], .int .i64 0, .int .i64 2]) ?hr rfl ?_
        case hr =>
          simp only [results, hres]
          go_simp
        exact ⟨(HA1.out.bel.setCell (p := ⟨w.heap.size + 1, 0, none⟩) (by simp) _).setCell (p := ⟨w.heap.size + 1, 1, none⟩) (by simp) _, .inl ⟨by rw [HE.out]; decide, by rw [HE.out]⟩⟩
    | true =>
      have hw2 := Bool.and_eq_true_iff.1 hwd
      rw [hw2.1] at HW
      have hn4 : n ≤ 4096 := by rw [← h.1]; exact hrm.len
      have hEE : addE next nds parent role at_ con = (admV next nds parent role at_ 1 1).2 := by unfold addE; rw [if_neg (by rw [hr]; simp), if_neg (by rw [hwd]; simp)]
      have HTw : Hid (∀ X, Below w.heap.size w X → Calls Try.prog 64 #[.agg #[.int .i64 next, .slice A n c]] X fun e w' => ∃ ov l, e = .returned (.agg #[.int .i64 next, ov]) ∧ OwnM w' X.heap.size ov l ∧ l.map (·.1) = nds ∧ Below X.heap.size X w') := Lib.hid fun X hX => twin_any X hi next A n c nds (h.below (hX.mono hh)) (Nat.le_trans hh hX.size) hn4 hf
      by_cases hp0 : parent = 0
      · subst hp0
        obtain ⟨mv, hmv0⟩ : ∃ mv : Int, (if (role.toList.isEmpty && at_ == 0) = true then 0 else 22) = mv := ⟨_, rfl⟩
        have HMy : Hid (∀ X, Below w.heap.size w X → Calls Try.prog 63 #[.agg #[.int .i64 next, .slice A n c], .int .i64 0, .string role, .int .i64 at_, .int .i64 1] X (Ret X (.int .i64 mv))) := Lib.hid fun X _ => mayRoot_any X next at_ role 1 A n c mv hmv0
        have hmv : (admV next nds 0 role at_ 1 1).2 = if mv ≠ 0 then mv else if 4096 < n + 1 then 4 else if 1048576 < next - 1 + (1 : Nat) then 4 else 0 := by
          unfold admV amV
          rw [if_neg (by simp), if_pos rfl, depth_root.2, h.1]
          cases hb : (role.toList.isEmpty && at_ == 0) with
          | true =>
            rw [hb] at hmv0
            subst hmv0
            simp only [Bool.true_eq_false, if_false, if_true, ne_eq, not_true_eq_false]
            split
            · omega
            · split
              · rfl
              · split <;> rfl
          | false => rw [hb] at hmv0; subst hmv0; simp
        have hpr : (0 : Int) = 0 → mv = 0 → role = ⟨#[]⟩ := fun _ hz => by
          have hb : (role.toList.isEmpty && at_ == 0) = true := by
            cases hb : (role.toList.isEmpty && at_ == 0) with
            | true => rfl
            | false => rw [hb] at hmv0; rw [← hmv0] at hz; cases hz
          have := (Bool.and_eq_true_iff.1 hb).1
          exact str_eq.1 (by rw [List.isEmpty_iff.1 this, toList_data])
        have HPR0 := Lib.hid hpr
        clear hmv0 hpr
        by_cases hz : mv = 0
        · subst hz
          by_cases e1 : 4096 < n + 1
          · have HE : Hid (addE next nds 0 role at_ con = 4) := Lib.hid (by rw [hEE, hmv, if_neg (by simp), if_pos e1])
            have d5 : decide ((4096 : Int) ≤ (n : Int)) = true := by rw [decide_eq_true_eq]; omega
            clear h hf hrm hwd hw2 hEE hmv
            go_enter Try.func19, Try.ntmps19
            go_wp2_with (first | (go_at_call 53; go_must (refine (HRi.out _ HA0.out.bel).mono ?_; rintro e w1 ⟨rfl, hb1⟩; have ha1 := HA0.out.after hb1; have r0 := ha1.r.cell 0; have r1 := ha1.r.cell 1; have r2 := ha1.r.frozen 0; have r3 := ha1.r.frozen 1; have r4 := ha1.m.cell 0; have r5 := ha1.m.cell 1; simp at r0 r1 r4 r5; have HA1 := Lib.hid ha1; clear ha1 hb1)) | (go_at_call_has 13 con; go_must (refine (HW.out _).mono ?_; rintro e w2 ⟨rfl, rfl⟩)) | (go_at_call 63; go_must (refine (HMy.out _ HA1.out.bel).mono ?_; rintro e w3 ⟨rfl, hb3⟩; have ha3 := HA1.out.after hb3; have p0 := ha3.r.cell 0; have p1 := ha3.r.cell 1; have p2 := ha3.r.frozen 0; have p3 := ha3.r.frozen 1; have p4 := ha3.m.cell 0; have p5 := ha3.m.cell 1; simp at p0 p1 p4 p5; have HA3 := Lib.hid ha3; clear ha3 hb3)))
            (try rw [Exit.noGoto_ret])
            (try simp only [Exit.inBlock, Exit.then])
            refine bodyPost_ret (v := .tuple #[.agg #[.int .i64 0, .slice none 0 0], .int .i64 0, .int .i64 4]) ?hr rfl ?_
            case hr =>
              simp only [results, hres]
              go_simp
            exact ⟨(HA3.out.bel.setCell (p := ⟨w.heap.size + 1, 0, none⟩) (by simp) _).setCell (p := ⟨w.heap.size + 1, 1, none⟩) (by simp) _, .inl ⟨by rw [HE.out]; decide, by rw [HE.out]⟩⟩
          · have d5 : decide ((4096 : Int) ≤ (n : Int)) = false := by rw [decide_eq_false_iff_not]; omega
            by_cases e2 : 1048576 < next - 1 + (1 : Nat)
            · have HE : Hid (addE next nds 0 role at_ con = 4) := Lib.hid (by rw [hEE, hmv, if_neg (by simp), if_neg e1, if_pos e2])
              have d6 : decide ((1048576 : Int) < next) = true := by rw [decide_eq_true_eq]; omega
              clear h hf hrm hwd hw2 hEE hmv
              go_enter Try.func19, Try.ntmps19
              go_wp2_with (first | (go_at_call 53; go_must (refine (HRi.out _ HA0.out.bel).mono ?_; rintro e w1 ⟨rfl, hb1⟩; have ha1 := HA0.out.after hb1; have r0 := ha1.r.cell 0; have r1 := ha1.r.cell 1; have r2 := ha1.r.frozen 0; have r3 := ha1.r.frozen 1; have r4 := ha1.m.cell 0; have r5 := ha1.m.cell 1; simp at r0 r1 r4 r5; have HA1 := Lib.hid ha1; clear ha1 hb1)) | (go_at_call_has 13 con; go_must (refine (HW.out _).mono ?_; rintro e w2 ⟨rfl, rfl⟩)) | (go_at_call 63; go_must (refine (HMy.out _ HA1.out.bel).mono ?_; rintro e w3 ⟨rfl, hb3⟩; have ha3 := HA1.out.after hb3; have p0 := ha3.r.cell 0; have p1 := ha3.r.cell 1; have p2 := ha3.r.frozen 0; have p3 := ha3.r.frozen 1; have p4 := ha3.m.cell 0; have p5 := ha3.m.cell 1; simp at p0 p1 p4 p5; have HA3 := Lib.hid ha3; clear ha3 hb3)))
              (try rw [Exit.noGoto_ret])
              (try simp only [Exit.inBlock, Exit.then])
              refine bodyPost_ret (v := .tuple #[.agg #[.int .i64 0, .slice none 0 0], .int .i64 0, .int .i64 4]) ?hr rfl ?_
              case hr =>
                simp only [results, hres]
                go_simp
              exact ⟨(HA3.out.bel.setCell (p := ⟨w.heap.size + 1, 0, none⟩) (by simp) _).setCell (p := ⟨w.heap.size + 1, 1, none⟩) (by simp) _, .inl ⟨by rw [HE.out]; decide, by rw [HE.out]⟩⟩
            · have d6 : decide ((1048576 : Int) < next) = false := by rw [decide_eq_false_iff_not]; omega
              have hz2 : (admV next nds 0 role at_ 1 1).2 = 0 := by rw [hmv, if_neg (by simp), if_neg e1, if_neg e2]
              have HE : Hid (addE next nds 0 role at_ con = 0) := Lib.hid (by rw [hEE, hz2])
              obtain ⟨ri, hri⟩ : ∃ ri, (admV next nds 0 role at_ 1 1).1 = ri := ⟨_, rfl⟩
              have HR1 := Lib.hid hri
              obtain ⟨_, _, _, _, p5⟩ := adm_ok hrm (show admV next nds 0 role at_ 1 1 = (ri, 0) from Prod.ext hri hz2)
              have HP := Lib.hid p5
              have HRM := Lib.hid hrm
              have HPr : Hid ((0 : Int) = 0 → role = ⟨#[]⟩) := Lib.hid (fun h0 => HPR0.out h0 rfl)
              have hx1 := hrm.lo
              have hnl := h.1
              clear h hf hrm hwd hw2 hEE hmv hz2 hri p5
              have hn : n ≤ 4095 := by omega
              have HLN : Hid (nds.length = n) := Lib.hid hnl
              obtain ⟨i0, hi0, hz0, hz1, hz2⟩ := info_parts nodeInfo
              go_enter Try.func19, Try.ntmps19
              go_upto_region 12 with (first | (go_at_call 53; go_must (refine (HRi.out _ HA0.out.bel).mono ?_; rintro e w1 ⟨rfl, hb1⟩; have ha1 := HA0.out.after hb1; have r0 := ha1.r.cell 0; have r1 := ha1.r.cell 1; have r2 := ha1.r.frozen 0; have r3 := ha1.r.frozen 1; have r4 := ha1.m.cell 0; have r5 := ha1.m.cell 1; simp at r0 r1 r4 r5; have HA1 := Lib.hid ha1; clear ha1 hb1)) | (go_at_call_has 13 con; go_must (refine (HW.out _).mono ?_; rintro e w2 ⟨rfl, rfl⟩)) | (go_at_call 63; go_must (refine (HMy.out _ HA1.out.bel).mono ?_; rintro e w3 ⟨rfl, hb3⟩; have ha3 := HA1.out.after hb3; have p0 := ha3.r.cell 0; have p1 := ha3.r.cell 1; have p2 := ha3.r.frozen 0; have p3 := ha3.r.frozen 1; have p4 := ha3.m.cell 0; have p5 := ha3.m.cell 1; simp at p0 p1 p4 p5; have HA3 := Lib.hid ha3; clear ha3 hb3)))
              go_upto_region 13 with (go_at_call 64; go_must (refine (HTw.out _ HA3.out.bel).mono ?_; rintro e w4 ⟨ov, l, rfl, ho4, hl4, hb4⟩; have HA4 := Lib.hid (HA3.out.after hb4); obtain ⟨A4, c4, rfl⟩ := own_form ho4.own; have HO4 := Lib.hid (ho4.mono HA3.out.bel.size); have HL4 := Lib.hid hl4; clear hb4 ho4 hl4))
              have HLn : Hid (l.length = n) := Lib.hid (by have := congrArg List.length HL4.out; rw [List.length_map, HLN.out] at this; exact this)
              have hsz4 := HA4.out.bel.size
              have hsr := HA4.out.r.lt
              have HX6 : Hid (TO w next A n c w4.heap.size next (.slice A4 l.length c4) l (w4.alloc (.cells #[.int .i64 next, .slice A4 l.length c4] 24))) := Lib.hid ⟨HA4.out.after (below_more (Below.refl _ _) _), Blk.new _ _ _, HO4.out.after (below_more (Below.refl _ _) _), hsz4, by omega, by omega⟩
              generalize w4.alloc (.cells #[.int .i64 next, .slice A4 l.length c4] 24) = X6 at HX6 ⊢
              generalize w4.heap.size = go at HX6 ⊢
              have g0 := HX6.out.out.cell 0
              have g1 := HX6.out.out.cell 1
              have g2 := HX6.out.a.m.cell 0
              simp at g0 g1 g2
              have HLf := Lib.hid (leaf_new (X6.alloc (.cells #[.int .i64 next, .string con, .int .i64 0, .string ⟨#[]⟩, .slice none 0 0, .slice none 0 0, .slice none 0 0] 59)) w.heap.size next con hs2)
              have HX7 := Lib.hid (HX6.out.after (below_more (Below.refl _ _) (.cells #[.int .i64 next, .string con, .int .i64 0, .string ⟨#[]⟩, .slice none 0 0, .slice none 0 0, .slice none 0 0] 59)))
              have hlw : l.length = n := HLn.out
              subst hlw
              go_upto_region 15 with (at_builtin; go_must (refine wpList_app _ rfl (.tmp 63) (.tmp 68) _ rfl w.heap.size 59 i0 _ 7 120 Try.underlying22 hi0 hz0 hz1 hz2 rfl (by omega) (.slice A4 l.length c4) l.length (allCells l) rfl HX7.out.own.own X6.heap.size (X6.heap.size + 1) (some ⟨X6.heap.size, 0, none⟩) 1 1 (ndCells (newNd next con, (⟨⟨none, 0, 0⟩, ⟨none, 0, 0⟩, ⟨none, 0, 0⟩⟩ : Leaf))) rfl (row_blk (n := 1) (Blk.new' rfl) rfl (Nat.le_refl _) (by unfold maxLen; omega)) (by simp [ndCells, Value.oneCell']) (by unfold maxLen; omega) (by omega) HX7.out.a.bel.size ?_); go_must (intro v7 w7 hown7 hg7 _; obtain ⟨G7, cap7, rfl, hca7, hcb7⟩ := own_slice hown7; have ab7 := HX7.out.a.kept HX7.out.own.own hg7; have out7 := HX7.out.out.grown hg7 (Ne.symm (own_blk_ne HX7.out.own.own HX7.out.out (by decide))); have ow7 := HX7.out.own.push hg7 hown7 HLf.out; have h8 := to_set ab7 out7 HX7.out.le HX7.out.n1 HX7.out.n2 1 (.slice (some ⟨G7, 0, none⟩) (l.length + 1) cap7) (nx' := next) (v' := .slice (some ⟨G7, 0, none⟩) (l.length + 1) cap7) (by simp) ow7; have o70 := out7.cell 0; have o71 := out7.cell 1; have o72 := out7.frozen 1; have o73 := out7.frozen 0; have o74 := ab7.m.cell 0; simp at o70 o71 o74; have e80 := h8.out.cell 0; have e81 := h8.a.m.cell 0; have e82 := h8.out.frozen 0; simp at e80 e81; have h9 := to_set h8.a h8.out h8.le h8.n1 h8.n2 0 (.int .i64 (next + 1)) (nx' := next + 1) (v' := .slice (some ⟨G7, 0, none⟩) (l.length + 1) cap7) (by simp) h8.own; have e90 := h9.out.cell 0; have e91 := h9.out.cell 1; have e92 := h9.a.m.cell 0; simp at e90 e91 e92; have HX9 := Lib.hid h9; clear ab7 out7 ow7 h8 h9 hown7 hg7))
              generalize (w7.setCell ⟨go, 1, none⟩ (.slice (some ⟨G7, 0, none⟩) (l.length + 1) cap7)).setCell ⟨go, 0, none⟩ (.int .i64 (next + 1)) = X9 at HX9 e90 e91 e92 ⊢
              have HPut : Hid (Calls Try.prog 65 #[.agg #[.int .i64 (next + 1), .slice (some ⟨G7, 0, none⟩) (l.length + 1) cap7], .int .i64 next, .int .i64 0, .string role, .int .i64 at_] X9 (PutPost X9 w.heap.size G7 (l.length + 1) cap7 (addL next nds 0 role con ri.toNat))) := Lib.hid (refPutNew X9 w.heap.size next 0 at_ ri role con G7 cap7 nds l HX9.out.own HRM.out HL4.out hs (by omega) (fun h0 => absurd rfl h0) (fun _ => HPr.out trivial))
              go_upto_region 16 with (go_at_call 65; go_must (refine HPut.out.mono ?_; rintro e w10 ⟨rfl, l', ho10, hg10, hm10⟩; have ab10 := HX9.out.a.kept HX9.out.own.own hg10; have out10 := HX9.out.out.grown hg10 (Ne.symm (own_blk_ne HX9.out.own.own HX9.out.out (by decide))); have HB10 := Lib.hid ab10; have HO10 := Lib.hid out10; have HN10 := Lib.hid ho10; have HM10 := Lib.hid hm10; clear ab10 out10 ho10 hg10 hm10))
              have t0 := HB10.out.r.cell 0
              have t1 := HB10.out.r.cell 1
              have t2 := HB10.out.r.frozen 0
              have t3 := HB10.out.r.frozen 1
              have t4 := HB10.out.m.cell 0
              have t5 := HO10.out.cell 0
              have t6 := HO10.out.cell 1
              simp at t0 t1 t4 t5 t6
              refine wp_region_held_tail 4 (fun X => X.cell? ⟨go, 0, none⟩ = some (.int .i64 (next + 1)) ∧ X.cell? ⟨go, 1, none⟩ = some (.slice (some ⟨G7, 0, none⟩) (l.length + 1) cap7) ∧ X.cell? ⟨w.heap.size, 0, none⟩ = some (.int .i64 next)) (by kernel_rfl) (by kernel_rfl) ?hSz (fun hHeld => ?qz0)
              case hSz => exact ⟨t5, t6, t4⟩
              case qz0 =>
                simp only [List.take_succ_cons, List.take_zero, List.drop_succ_cons, List.drop_zero]
                refine wpAnyH_take (i := 0) (v := (.agg #[.int .i64 (next + 1), .slice (some ⟨G7, 0, none⟩) (l.length + 1) cap7])) rfl (by kernel_rfl) (by kernel_rfl) (by kernel_rfl) (fun _ _ _ h => h) (Or.inl ⟨by rfl, ?yz_1⟩) (by assumption) ?qz_1
                case yz_1 => (intro w hSw; (try dsimp only at hSw); go_simp)
                case qz_1 =>
                  (try simp only [Act.put]); (try simp only [List.setIfInBounds_toArray])
                  refine wpAnyH_take (i := 1) (v := (.pointer (some ⟨w.heap.size, 0, none⟩))) rfl (by kernel_rfl) (by kernel_rfl) (by kernel_rfl) (fun _ _ _ h => h) (Or.inl ⟨by rfl, ?yz_2⟩) (by assumption) ?qz_2
                  case yz_2 => (intro w hSw; (try dsimp only at hSw); go_simp)
                  case qz_2 =>
                    (try simp only [Act.put]); (try simp only [List.setIfInBounds_toArray])
                    refine wpAnyH_take (i := 2) (v := (.int .i64 next)) rfl (by kernel_rfl) (by kernel_rfl) (by kernel_rfl) (fun _ _ _ h => h) (Or.inl ⟨by rfl, ?yz_3⟩) (by assumption) ?qz_3
                    case yz_3 => (intro w hSw; (try dsimp only at hSw); go_simp)
                    case qz_3 =>
                      (try simp only [Act.put]); (try simp only [List.setIfInBounds_toArray])
                      refine wpAnyH_ready (rs := [3]) (by kernel_rfl) (by simp) ?_
                      refine AllReadyH.cons rfl (fun K hK => ?sz_4) ?mz_4
                      case sz_4 =>
                        (go_simp; have HSz : Hid (Blk ((w10.drew.setCell ⟨w.heap.size + 1, 0, none⟩ (.int .i64 (next + 1))).setCell ⟨w.heap.size + 1, 1, none⟩ (.slice (some ⟨G7, 0, none⟩) (l.length + 1) cap7)) go 24 #[.int .i64 (next + 1), .slice (some ⟨G7, 0, none⟩) (l.length + 1) cap7] ∧ Blk ((w10.drew.setCell ⟨w.heap.size + 1, 0, none⟩ (.int .i64 (next + 1))).setCell ⟨w.heap.size + 1, 1, none⟩ (.slice (some ⟨G7, 0, none⟩) (l.length + 1) cap7)) w.heap.size 24 #[.int .i64 next, .slice A l.length c]) := Lib.hid ⟨((show Blk w10.drew go _ _ from HO10.out).far (p := ⟨w.heap.size + 1, 0, none⟩) (Ne.symm HX9.out.n2) _).far (p := ⟨w.heap.size + 1, 1, none⟩) (Ne.symm HX9.out.n2) _, ((show Blk w10.drew w.heap.size _ _ from HB10.out.m).far (p := ⟨w.heap.size + 1, 0, none⟩) (by simp) _).far (p := ⟨w.heap.size + 1, 1, none⟩) (by simp) _⟩)
                        refine hK.out _ _ ?kz_4 (fun hHeld => ?qz_4)
                        case kz_4 => ((try dsimp only); exact ⟨(HSz.out.1.cell 0).trans rfl, (HSz.out.1.cell 1).trans rfl, (HSz.out.2.cell 0).trans rfl⟩)
                        case qz_4 =>
                          clear hK K
                          (try simp only [Act.put]); (try simp only [List.setIfInBounds_toArray])
                          refine wpAnyH_done (by kernel_rfl) ?_ _
                          show wpList _ _ _ _ _ _
                          go_wp2_with fail
                          (try rw [Exit.noGoto_ret])
                          (try simp only [Exit.inBlock, Exit.then])
                          refine bodyPost_ret (v := .tuple #[.agg #[.int .i64 (next + 1), .slice (some ⟨G7, 0, none⟩) (l.length + 1) cap7], .int .i64 next, .int .i64 0]) ?hr rfl ?_
                          case hr =>
                            simp only [results, hres]
                            go_simp
                          have hr10 : Blk w10.drew (w.heap.size + 1) 24 #[.int .i64 0, .slice none 0 0] := HB10.out.r
                          have ho10 : OwnM w10.drew w.heap.size (.slice (some ⟨G7, 0, none⟩) (l.length + 1) cap7) l' := HN10.out.after (below_drew (Below.refl _ _))
                          refine ⟨((below_drew HB10.out.bel).setCell (p := ⟨w.heap.size + 1, 0, none⟩) (by simp) _).setCell (p := ⟨w.heap.size + 1, 1, none⟩) (by simp) _, .inr ⟨HE.out, some ⟨G7, 0, none⟩, cap7, l', by rw [HLN.out], ?_, by rw [HM10.out, HR1.out]⟩⟩
                          rw [HLN.out]
                          exact (ho10.other hr10 0 _).other (hr10.set_ 0 _) 1 _
                      case mz_4 =>
                        exact AllReadyH.nil
        · have HE : Hid (addE next nds 0 role at_ con = mv) := Lib.hid (by rw [hEE, hmv, if_pos hz])
          have HZ := Lib.hid hz
          have d9 : (mv != 0) = true := by rw [bne_iff_ne]; exact hz
          clear h hf hrm hwd hw2 hEE hmv hz
          go_enter Try.func19, Try.ntmps19
          go_wp2_with (first | (go_at_call 53; go_must (refine (HRi.out _ HA0.out.bel).mono ?_; rintro e w1 ⟨rfl, hb1⟩; have ha1 := HA0.out.after hb1; have r0 := ha1.r.cell 0; have r1 := ha1.r.cell 1; have r2 := ha1.r.frozen 0; have r3 := ha1.r.frozen 1; have r4 := ha1.m.cell 0; have r5 := ha1.m.cell 1; simp at r0 r1 r4 r5; have HA1 := Lib.hid ha1; clear ha1 hb1)) | (go_at_call_has 13 con; go_must (refine (HW.out _).mono ?_; rintro e w2 ⟨rfl, rfl⟩)) | (go_at_call 63; go_must (refine (HMy.out _ HA1.out.bel).mono ?_; rintro e w3 ⟨rfl, hb3⟩; have ha3 := HA1.out.after hb3; have p0 := ha3.r.cell 0; have p1 := ha3.r.cell 1; have p2 := ha3.r.frozen 0; have p3 := ha3.r.frozen 1; have p4 := ha3.m.cell 0; have p5 := ha3.m.cell 1; simp at p0 p1 p4 p5; have HA3 := Lib.hid ha3; clear ha3 hb3)))
          (try rw [Exit.noGoto_ret])
          (try simp only [Exit.inBlock, Exit.then])
          refine bodyPost_ret (v := .tuple #[.agg #[.int .i64 0, .slice none 0 0], .int .i64 0, .int .i64 mv]) ?hr rfl ?_
          case hr =>
            simp only [results, hres]
            go_simp
          exact ⟨(HA3.out.bel.setCell (p := ⟨w.heap.size + 1, 0, none⟩) (by simp) _).setCell (p := ⟨w.heap.size + 1, 1, none⟩) (by simp) _, .inl ⟨by rw [HE.out]; exact HZ.out, by rw [HE.out]⟩⟩
      · have d0 : (parent != 0) = true := by rw [bne_iff_ne]; exact hp0
        have hwr : wordB role = true := by
          have h1 := hw2.2
          rw [beq_eq_false_iff_ne.2 hp0] at h1
          simpa using h1
        rw [hwr] at HV
        cases hx : ndOf nds parent with
        | none =>
          have HE : Hid (addE next nds parent role at_ con = 20) := Lib.hid (by rw [hEE]; unfold admV; rw [if_pos ⟨hp0, by rw [hx]; rfl⟩])
          have hix : ixOf nds parent = none := by
            have h1 := has_ndOf (nds := nds) (id := parent)
            rw [hx] at h1
            exact Option.isNone_iff_eq_none.1 (by cases h2 : ixOf nds parent with
              | none => rfl
              | some i => rw [h2] at h1; cases h1)
          have HAt : Hid (∀ X, Below w.heap.size w X → Calls Try.prog 62 #[.agg #[.int .i64 next, .slice A n c], .int .i64 parent] X (Ret X (.int .i64 (-1)))) := Lib.hid fun X hX => by
            have h1 := refAt_any X hi next parent A n c nds (h.below (hX.mono hh)) (Nat.le_trans hh hX.size) hrm.rise hn4
            rw [show atV nds parent = -1 from by unfold atV; rw [hix]] at h1
            exact h1
          clear h hf hrm hwd hw2 hEE hx hix hp0 hwr
          go_enter Try.func19, Try.ntmps19
          go_wp2_with (first | (go_at_call 53; go_must (refine (HRi.out _ HA0.out.bel).mono ?_; rintro e w1 ⟨rfl, hb1⟩; have ha1 := HA0.out.after hb1; have r0 := ha1.r.cell 0; have r1 := ha1.r.cell 1; have r2 := ha1.r.frozen 0; have r3 := ha1.r.frozen 1; have r4 := ha1.m.cell 0; have r5 := ha1.m.cell 1; simp at r0 r1 r4 r5; have HA1 := Lib.hid ha1; clear ha1 hb1)) | (go_at_call_has 13 con; go_must (refine (HW.out _).mono ?_; rintro e w2 ⟨rfl, rfl⟩)) | (go_at_call 13; go_must (refine (HV.out _).mono ?_; rintro e w2 ⟨rfl, rfl⟩)) | (go_at_call 62; go_must (refine (HAt.out _ HA1.out.bel).mono ?_; rintro e w2 ⟨rfl, hb2⟩; have ha2 := HA1.out.after hb2; have q0 := ha2.r.cell 0; have q1 := ha2.r.cell 1; have q2 := ha2.r.frozen 0; have q3 := ha2.r.frozen 1; have q4 := ha2.m.cell 0; have q5 := ha2.m.cell 1; simp at q0 q1 q4 q5; have HA2 := Lib.hid ha2; clear ha2 hb2)))
          (try rw [Exit.noGoto_ret])
          (try simp only [Exit.inBlock, Exit.then])
          refine bodyPost_ret (v := .tuple #[.agg #[.int .i64 0, .slice none 0 0], .int .i64 0, .int .i64 20]) ?hr rfl ?_
          case hr =>
            simp only [results, hres]
            go_simp
          exact ⟨(HA2.out.bel.setCell (p := ⟨w.heap.size + 1, 0, none⟩) (by simp) _).setCell (p := ⟨w.heap.size + 1, 1, none⟩) (by simp) _, .inl ⟨by rw [HE.out]; decide, by rw [HE.out]⟩⟩
        | some x =>
          obtain ⟨jj, j1, j2, _⟩ := ndOf_some hx
          have HAt : Hid (∀ X, Below w.heap.size w X → Calls Try.prog 62 #[.agg #[.int .i64 next, .slice A n c], .int .i64 parent] X (Ret X (.int .i64 jj))) := Lib.hid fun X hX => by
            have h1 := refAt_any X hi next parent A n c nds (h.below (hX.mono hh)) (Nat.le_trans hh hX.size) hrm.rise hn4
            rw [show atV nds parent = jj from by unfold atV; rw [j1]] at h1
            exact h1
          have hdep := hrm.depth hx
          have hkk := hrm.kOk (List.mem_of_getElem? j2)
          have hnd := (hrm.kids (List.mem_of_getElem? j2)).2
          obtain ⟨q, hq⟩ : ∃ q, beforeV (inRoleB nds role) at_ x.kids = q := ⟨_, rfl⟩
          obtain ⟨mv, hmv0⟩ : ∃ mv : Int, (if q < 0 then 22 else if 64 < depthV nds parent + 1 then 23 else 0) = mv := ⟨_, rfl⟩
          have HMy : Hid (∀ X, Below w.heap.size w X → Calls Try.prog 63 #[.agg #[.int .i64 next, .slice A n c], .int .i64 parent, .string role, .int .i64 at_, .int .i64 1] X (Ret X (.int .i64 mv))) := Lib.hid fun X hX =>
            may_any X next parent at_ role 1 (depthV nds parent) A n c (by omega) hdep.2.2 hp0 q
              (Lib.hid fun Y hY => refBefore_any Y hi next parent at_ role A n c nds (h.below ((hX.trans (hY.mono hX.size)).mono hh)) (Nat.le_trans hh (hX.trans (hY.mono hX.size)).size) x hkk hx q hq)
              (Lib.hid fun Y hY => refDepth_any Y hi next parent A n c nds (h.below ((hX.trans (hY.mono hX.size)).mono hh)) (Nat.le_trans hh (hX.trans (hY.mono hX.size)).size) hrm.rise hn4 _ hdep.1 (by have := hdep.2.2; omega)) mv hmv0
          have hmv : (admV next nds parent role at_ 1 1).2 = if mv ≠ 0 then mv else if 4096 < n + 1 then 4 else if 1048576 < next - 1 + (1 : Nat) then 4 else 0 := by
            have hb := (among_before (f := inRoleB nds role) (at_ := at_) hnd).1
            have e2 : amV nds parent role at_ = amongF (inRoleB nds role) at_ 0 x.kids.length 0 x.kids := by unfold amV; rw [if_neg hp0, hx]
            rw [hq] at hb
            unfold admV
            rw [if_neg (by rw [hx]; simp), e2, hb, h.1]
            by_cases hq0 : q < 0
            · have hq1 : q = -1 := by
                rcases before_range (inRoleB nds role) at_ x.kids with h1 | ⟨a, h1, _⟩
                · rw [← hq, h1]
                · omega
              rw [if_pos hq0] at hmv0
              subst hmv0
              rw [if_pos (by rw [hq1]; simp), if_pos (by simp)]
            · rw [if_neg hq0] at hmv0
              rw [if_neg (by simp; omega)]
              by_cases hk : 64 < depthV nds parent + 1
              · rw [if_pos hk] at hmv0 ⊢
                subst hmv0
                rw [if_pos (by simp)]
              · rw [if_neg hk] at hmv0 ⊢
                subst hmv0
                by_cases e1 : 4096 < n + 1
                · simp [e1]
                · by_cases e2 : 1048576 < next - 1 + (1 : Nat)
                  · simp only [e1, e2, if_true, if_false, ne_eq, not_true_eq_false]
                  · simp only [e1, e2, if_true, if_false, ne_eq, not_true_eq_false]
          have HPR0 : Hid (parent = 0 → role = ⟨#[]⟩) := Lib.hid fun h0 => absurd h0 hp0
          have d2 : decide ((jj : Int) < 0) = false := by rw [decide_eq_false_iff_not]; omega
          clear hmv0 hq hx j1 j2 hdep hkk hnd hwr
          by_cases hz : mv = 0
          · subst hz
            by_cases e1 : 4096 < n + 1
            · have HE : Hid (addE next nds parent role at_ con = 4) := Lib.hid (by rw [hEE, hmv, if_neg (by simp), if_pos e1])
              have d5 : decide ((4096 : Int) ≤ (n : Int)) = true := by rw [decide_eq_true_eq]; omega
              clear h hf hrm hwd hw2 hEE hmv
              go_enter Try.func19, Try.ntmps19
              go_wp2_with (first | (go_at_call 53; go_must (refine (HRi.out _ HA0.out.bel).mono ?_; rintro e w1 ⟨rfl, hb1⟩; have ha1 := HA0.out.after hb1; have r0 := ha1.r.cell 0; have r1 := ha1.r.cell 1; have r2 := ha1.r.frozen 0; have r3 := ha1.r.frozen 1; have r4 := ha1.m.cell 0; have r5 := ha1.m.cell 1; simp at r0 r1 r4 r5; have HA1 := Lib.hid ha1; clear ha1 hb1)) | (go_at_call_has 13 con; go_must (refine (HW.out _).mono ?_; rintro e w2 ⟨rfl, rfl⟩)) | (go_at_call 13; go_must (refine (HV.out _).mono ?_; rintro e w2 ⟨rfl, rfl⟩)) | (go_at_call 62; go_must (refine (HAt.out _ HA1.out.bel).mono ?_; rintro e w2 ⟨rfl, hb2⟩; have ha2 := HA1.out.after hb2; have q0 := ha2.r.cell 0; have q1 := ha2.r.cell 1; have q2 := ha2.r.frozen 0; have q3 := ha2.r.frozen 1; have q4 := ha2.m.cell 0; have q5 := ha2.m.cell 1; simp at q0 q1 q4 q5; have HA2 := Lib.hid ha2; clear ha2 hb2)) | (go_at_call 63; go_must (refine (HMy.out _ HA2.out.bel).mono ?_; rintro e w3 ⟨rfl, hb3⟩; have ha3 := HA2.out.after hb3; have p0 := ha3.r.cell 0; have p1 := ha3.r.cell 1; have p2 := ha3.r.frozen 0; have p3 := ha3.r.frozen 1; have p4 := ha3.m.cell 0; have p5 := ha3.m.cell 1; simp at p0 p1 p4 p5; have HA3 := Lib.hid ha3; clear ha3 hb3)))
              (try rw [Exit.noGoto_ret])
              (try simp only [Exit.inBlock, Exit.then])
              refine bodyPost_ret (v := .tuple #[.agg #[.int .i64 0, .slice none 0 0], .int .i64 0, .int .i64 4]) ?hr rfl ?_
              case hr =>
                simp only [results, hres]
                go_simp
              exact ⟨(HA3.out.bel.setCell (p := ⟨w.heap.size + 1, 0, none⟩) (by simp) _).setCell (p := ⟨w.heap.size + 1, 1, none⟩) (by simp) _, .inl ⟨by rw [HE.out]; decide, by rw [HE.out]⟩⟩
            · have d5 : decide ((4096 : Int) ≤ (n : Int)) = false := by rw [decide_eq_false_iff_not]; omega
              by_cases e2 : 1048576 < next - 1 + (1 : Nat)
              · have HE : Hid (addE next nds parent role at_ con = 4) := Lib.hid (by rw [hEE, hmv, if_neg (by simp), if_neg e1, if_pos e2])
                have d6 : decide ((1048576 : Int) < next) = true := by rw [decide_eq_true_eq]; omega
                clear h hf hrm hwd hw2 hEE hmv
                go_enter Try.func19, Try.ntmps19
                go_wp2_with (first | (go_at_call 53; go_must (refine (HRi.out _ HA0.out.bel).mono ?_; rintro e w1 ⟨rfl, hb1⟩; have ha1 := HA0.out.after hb1; have r0 := ha1.r.cell 0; have r1 := ha1.r.cell 1; have r2 := ha1.r.frozen 0; have r3 := ha1.r.frozen 1; have r4 := ha1.m.cell 0; have r5 := ha1.m.cell 1; simp at r0 r1 r4 r5; have HA1 := Lib.hid ha1; clear ha1 hb1)) | (go_at_call_has 13 con; go_must (refine (HW.out _).mono ?_; rintro e w2 ⟨rfl, rfl⟩)) | (go_at_call 13; go_must (refine (HV.out _).mono ?_; rintro e w2 ⟨rfl, rfl⟩)) | (go_at_call 62; go_must (refine (HAt.out _ HA1.out.bel).mono ?_; rintro e w2 ⟨rfl, hb2⟩; have ha2 := HA1.out.after hb2; have q0 := ha2.r.cell 0; have q1 := ha2.r.cell 1; have q2 := ha2.r.frozen 0; have q3 := ha2.r.frozen 1; have q4 := ha2.m.cell 0; have q5 := ha2.m.cell 1; simp at q0 q1 q4 q5; have HA2 := Lib.hid ha2; clear ha2 hb2)) | (go_at_call 63; go_must (refine (HMy.out _ HA2.out.bel).mono ?_; rintro e w3 ⟨rfl, hb3⟩; have ha3 := HA2.out.after hb3; have p0 := ha3.r.cell 0; have p1 := ha3.r.cell 1; have p2 := ha3.r.frozen 0; have p3 := ha3.r.frozen 1; have p4 := ha3.m.cell 0; have p5 := ha3.m.cell 1; simp at p0 p1 p4 p5; have HA3 := Lib.hid ha3; clear ha3 hb3)))
                (try rw [Exit.noGoto_ret])
                (try simp only [Exit.inBlock, Exit.then])
                refine bodyPost_ret (v := .tuple #[.agg #[.int .i64 0, .slice none 0 0], .int .i64 0, .int .i64 4]) ?hr rfl ?_
                case hr =>
                  simp only [results, hres]
                  go_simp
                exact ⟨(HA3.out.bel.setCell (p := ⟨w.heap.size + 1, 0, none⟩) (by simp) _).setCell (p := ⟨w.heap.size + 1, 1, none⟩) (by simp) _, .inl ⟨by rw [HE.out]; decide, by rw [HE.out]⟩⟩
              · have d6 : decide ((1048576 : Int) < next) = false := by rw [decide_eq_false_iff_not]; omega
                have hz2 : (admV next nds parent role at_ 1 1).2 = 0 := by rw [hmv, if_neg (by simp), if_neg e1, if_neg e2]
                have HE : Hid (addE next nds parent role at_ con = 0) := Lib.hid (by rw [hEE, hz2])
                obtain ⟨ri, hri⟩ : ∃ ri, (admV next nds parent role at_ 1 1).1 = ri := ⟨_, rfl⟩
                have HR1 := Lib.hid hri
                obtain ⟨_, _, _, _, p5⟩ := adm_ok hrm (show admV next nds parent role at_ 1 1 = (ri, 0) from Prod.ext hri hz2)
                have HP := Lib.hid p5
                have HRM := Lib.hid hrm
                have HPr := HPR0
                have hx1 := hrm.lo
                have hnl := h.1
                clear h hf hrm hwd hw2 hEE hmv hz2 hri p5
                have hn : n ≤ 4095 := by omega
                have HLN : Hid (nds.length = n) := Lib.hid hnl
                obtain ⟨i0, hi0, hz0, hz1, hz2⟩ := info_parts nodeInfo
                go_enter Try.func19, Try.ntmps19
                go_upto_region 12 with (first | (go_at_call 53; go_must (refine (HRi.out _ HA0.out.bel).mono ?_; rintro e w1 ⟨rfl, hb1⟩; have ha1 := HA0.out.after hb1; have r0 := ha1.r.cell 0; have r1 := ha1.r.cell 1; have r2 := ha1.r.frozen 0; have r3 := ha1.r.frozen 1; have r4 := ha1.m.cell 0; have r5 := ha1.m.cell 1; simp at r0 r1 r4 r5; have HA1 := Lib.hid ha1; clear ha1 hb1)) | (go_at_call_has 13 con; go_must (refine (HW.out _).mono ?_; rintro e w2 ⟨rfl, rfl⟩)) | (go_at_call 13; go_must (refine (HV.out _).mono ?_; rintro e w2 ⟨rfl, rfl⟩)) | (go_at_call 62; go_must (refine (HAt.out _ HA1.out.bel).mono ?_; rintro e w2 ⟨rfl, hb2⟩; have ha2 := HA1.out.after hb2; have q0 := ha2.r.cell 0; have q1 := ha2.r.cell 1; have q2 := ha2.r.frozen 0; have q3 := ha2.r.frozen 1; have q4 := ha2.m.cell 0; have q5 := ha2.m.cell 1; simp at q0 q1 q4 q5; have HA2 := Lib.hid ha2; clear ha2 hb2)) | (go_at_call 63; go_must (refine (HMy.out _ HA2.out.bel).mono ?_; rintro e w3 ⟨rfl, hb3⟩; have ha3 := HA2.out.after hb3; have p0 := ha3.r.cell 0; have p1 := ha3.r.cell 1; have p2 := ha3.r.frozen 0; have p3 := ha3.r.frozen 1; have p4 := ha3.m.cell 0; have p5 := ha3.m.cell 1; simp at p0 p1 p4 p5; have HA3 := Lib.hid ha3; clear ha3 hb3)))
                go_upto_region 13 with (go_at_call 64; go_must (refine (HTw.out _ HA3.out.bel).mono ?_; rintro e w4 ⟨ov, l, rfl, ho4, hl4, hb4⟩; have HA4 := Lib.hid (HA3.out.after hb4); obtain ⟨A4, c4, rfl⟩ := own_form ho4.own; have HO4 := Lib.hid (ho4.mono HA3.out.bel.size); have HL4 := Lib.hid hl4; clear hb4 ho4 hl4))
                have HLn : Hid (l.length = n) := Lib.hid (by have := congrArg List.length HL4.out; rw [List.length_map, HLN.out] at this; exact this)
                have hsz4 := HA4.out.bel.size
                have hsr := HA4.out.r.lt
                have HX6 : Hid (TO w next A n c w4.heap.size next (.slice A4 l.length c4) l (w4.alloc (.cells #[.int .i64 next, .slice A4 l.length c4] 24))) := Lib.hid ⟨HA4.out.after (below_more (Below.refl _ _) _), Blk.new _ _ _, HO4.out.after (below_more (Below.refl _ _) _), hsz4, by omega, by omega⟩
                generalize w4.alloc (.cells #[.int .i64 next, .slice A4 l.length c4] 24) = X6 at HX6 ⊢
                generalize w4.heap.size = go at HX6 ⊢
                have g0 := HX6.out.out.cell 0
                have g1 := HX6.out.out.cell 1
                have g2 := HX6.out.a.m.cell 0
                simp at g0 g1 g2
                have HLf := Lib.hid (leaf_new (X6.alloc (.cells #[.int .i64 next, .string con, .int .i64 0, .string ⟨#[]⟩, .slice none 0 0, .slice none 0 0, .slice none 0 0] 59)) w.heap.size next con hs2)
                have HX7 := Lib.hid (HX6.out.after (below_more (Below.refl _ _) (.cells #[.int .i64 next, .string con, .int .i64 0, .string ⟨#[]⟩, .slice none 0 0, .slice none 0 0, .slice none 0 0] 59)))
                have hlw : l.length = n := HLn.out
                subst hlw
                go_upto_region 15 with (at_builtin; go_must (refine wpList_app _ rfl (.tmp 63) (.tmp 68) _ rfl w.heap.size 59 i0 _ 7 120 Try.underlying22 hi0 hz0 hz1 hz2 rfl (by omega) (.slice A4 l.length c4) l.length (allCells l) rfl HX7.out.own.own X6.heap.size (X6.heap.size + 1) (some ⟨X6.heap.size, 0, none⟩) 1 1 (ndCells (newNd next con, (⟨⟨none, 0, 0⟩, ⟨none, 0, 0⟩, ⟨none, 0, 0⟩⟩ : Leaf))) rfl (row_blk (n := 1) (Blk.new' rfl) rfl (Nat.le_refl _) (by unfold maxLen; omega)) (by simp [ndCells, Value.oneCell']) (by unfold maxLen; omega) (by omega) HX7.out.a.bel.size ?_); go_must (intro v7 w7 hown7 hg7 _; obtain ⟨G7, cap7, rfl, hca7, hcb7⟩ := own_slice hown7; have ab7 := HX7.out.a.kept HX7.out.own.own hg7; have out7 := HX7.out.out.grown hg7 (Ne.symm (own_blk_ne HX7.out.own.own HX7.out.out (by decide))); have ow7 := HX7.out.own.push hg7 hown7 HLf.out; have h8 := to_set ab7 out7 HX7.out.le HX7.out.n1 HX7.out.n2 1 (.slice (some ⟨G7, 0, none⟩) (l.length + 1) cap7) (nx' := next) (v' := .slice (some ⟨G7, 0, none⟩) (l.length + 1) cap7) (by simp) ow7; have o70 := out7.cell 0; have o71 := out7.cell 1; have o72 := out7.frozen 1; have o73 := out7.frozen 0; have o74 := ab7.m.cell 0; simp at o70 o71 o74; have e80 := h8.out.cell 0; have e81 := h8.a.m.cell 0; have e82 := h8.out.frozen 0; simp at e80 e81; have h9 := to_set h8.a h8.out h8.le h8.n1 h8.n2 0 (.int .i64 (next + 1)) (nx' := next + 1) (v' := .slice (some ⟨G7, 0, none⟩) (l.length + 1) cap7) (by simp) h8.own; have e90 := h9.out.cell 0; have e91 := h9.out.cell 1; have e92 := h9.a.m.cell 0; simp at e90 e91 e92; have HX9 := Lib.hid h9; clear ab7 out7 ow7 h8 h9 hown7 hg7))
                generalize (w7.setCell ⟨go, 1, none⟩ (.slice (some ⟨G7, 0, none⟩) (l.length + 1) cap7)).setCell ⟨go, 0, none⟩ (.int .i64 (next + 1)) = X9 at HX9 e90 e91 e92 ⊢
                have HPut : Hid (Calls Try.prog 65 #[.agg #[.int .i64 (next + 1), .slice (some ⟨G7, 0, none⟩) (l.length + 1) cap7], .int .i64 next, .int .i64 parent, .string role, .int .i64 at_] X9 (PutPost X9 w.heap.size G7 (l.length + 1) cap7 (addL next nds parent role con ri.toNat))) := Lib.hid (refPutNew X9 w.heap.size next parent at_ ri role con G7 cap7 nds l HX9.out.own HRM.out HL4.out hs (by omega) (fun _ => by first | exact HP.out | exact HP.out hp0) (fun h0 => absurd h0 hp0))
                go_upto_region 16 with (go_at_call 65; go_must (refine HPut.out.mono ?_; rintro e w10 ⟨rfl, l', ho10, hg10, hm10⟩; have ab10 := HX9.out.a.kept HX9.out.own.own hg10; have out10 := HX9.out.out.grown hg10 (Ne.symm (own_blk_ne HX9.out.own.own HX9.out.out (by decide))); have HB10 := Lib.hid ab10; have HO10 := Lib.hid out10; have HN10 := Lib.hid ho10; have HM10 := Lib.hid hm10; clear ab10 out10 ho10 hg10 hm10))
                have t0 := HB10.out.r.cell 0
                have t1 := HB10.out.r.cell 1
                have t2 := HB10.out.r.frozen 0
                have t3 := HB10.out.r.frozen 1
                have t4 := HB10.out.m.cell 0
                have t5 := HO10.out.cell 0
                have t6 := HO10.out.cell 1
                simp at t0 t1 t4 t5 t6
                refine wp_region_held_tail 4 (fun X => X.cell? ⟨go, 0, none⟩ = some (.int .i64 (next + 1)) ∧ X.cell? ⟨go, 1, none⟩ = some (.slice (some ⟨G7, 0, none⟩) (l.length + 1) cap7) ∧ X.cell? ⟨w.heap.size, 0, none⟩ = some (.int .i64 next)) (by kernel_rfl) (by kernel_rfl) ?hSz (fun hHeld => ?qz0)
                case hSz => exact ⟨t5, t6, t4⟩
                case qz0 =>
                  simp only [List.take_succ_cons, List.take_zero, List.drop_succ_cons, List.drop_zero]
                  refine wpAnyH_take (i := 0) (v := (.agg #[.int .i64 (next + 1), .slice (some ⟨G7, 0, none⟩) (l.length + 1) cap7])) rfl (by kernel_rfl) (by kernel_rfl) (by kernel_rfl) (fun _ _ _ h => h) (Or.inl ⟨by rfl, ?yz_1⟩) (by assumption) ?qz_1
                  case yz_1 => (intro w hSw; (try dsimp only at hSw); go_simp)
                  case qz_1 =>
                    (try simp only [Act.put]); (try simp only [List.setIfInBounds_toArray])
                    refine wpAnyH_take (i := 1) (v := (.pointer (some ⟨w.heap.size, 0, none⟩))) rfl (by kernel_rfl) (by kernel_rfl) (by kernel_rfl) (fun _ _ _ h => h) (Or.inl ⟨by rfl, ?yz_2⟩) (by assumption) ?qz_2
                    case yz_2 => (intro w hSw; (try dsimp only at hSw); go_simp)
                    case qz_2 =>
                      (try simp only [Act.put]); (try simp only [List.setIfInBounds_toArray])
                      refine wpAnyH_take (i := 2) (v := (.int .i64 next)) rfl (by kernel_rfl) (by kernel_rfl) (by kernel_rfl) (fun _ _ _ h => h) (Or.inl ⟨by rfl, ?yz_3⟩) (by assumption) ?qz_3
                      case yz_3 => (intro w hSw; (try dsimp only at hSw); go_simp)
                      case qz_3 =>
                        (try simp only [Act.put]); (try simp only [List.setIfInBounds_toArray])
                        refine wpAnyH_ready (rs := [3]) (by kernel_rfl) (by simp) ?_
                        refine AllReadyH.cons rfl (fun K hK => ?sz_4) ?mz_4
                        case sz_4 =>
                          (go_simp; have HSz : Hid (Blk ((w10.drew.setCell ⟨w.heap.size + 1, 0, none⟩ (.int .i64 (next + 1))).setCell ⟨w.heap.size + 1, 1, none⟩ (.slice (some ⟨G7, 0, none⟩) (l.length + 1) cap7)) go 24 #[.int .i64 (next + 1), .slice (some ⟨G7, 0, none⟩) (l.length + 1) cap7] ∧ Blk ((w10.drew.setCell ⟨w.heap.size + 1, 0, none⟩ (.int .i64 (next + 1))).setCell ⟨w.heap.size + 1, 1, none⟩ (.slice (some ⟨G7, 0, none⟩) (l.length + 1) cap7)) w.heap.size 24 #[.int .i64 next, .slice A l.length c]) := Lib.hid ⟨((show Blk w10.drew go _ _ from HO10.out).far (p := ⟨w.heap.size + 1, 0, none⟩) (Ne.symm HX9.out.n2) _).far (p := ⟨w.heap.size + 1, 1, none⟩) (Ne.symm HX9.out.n2) _, ((show Blk w10.drew w.heap.size _ _ from HB10.out.m).far (p := ⟨w.heap.size + 1, 0, none⟩) (by simp) _).far (p := ⟨w.heap.size + 1, 1, none⟩) (by simp) _⟩)
                          refine hK.out _ _ ?kz_4 (fun hHeld => ?qz_4)
                          case kz_4 => ((try dsimp only); exact ⟨(HSz.out.1.cell 0).trans rfl, (HSz.out.1.cell 1).trans rfl, (HSz.out.2.cell 0).trans rfl⟩)
                          case qz_4 =>
                            clear hK K
                            (try simp only [Act.put]); (try simp only [List.setIfInBounds_toArray])
                            refine wpAnyH_done (by kernel_rfl) ?_ _
                            show wpList _ _ _ _ _ _
                            go_wp2_with fail
                            (try rw [Exit.noGoto_ret])
                            (try simp only [Exit.inBlock, Exit.then])
                            refine bodyPost_ret (v := .tuple #[.agg #[.int .i64 (next + 1), .slice (some ⟨G7, 0, none⟩) (l.length + 1) cap7], .int .i64 next, .int .i64 0]) ?hr rfl ?_
                            case hr =>
                              simp only [results, hres]
                              go_simp
                            have hr10 : Blk w10.drew (w.heap.size + 1) 24 #[.int .i64 0, .slice none 0 0] := HB10.out.r
                            have ho10 : OwnM w10.drew w.heap.size (.slice (some ⟨G7, 0, none⟩) (l.length + 1) cap7) l' := HN10.out.after (below_drew (Below.refl _ _))
                            refine ⟨((below_drew HB10.out.bel).setCell (p := ⟨w.heap.size + 1, 0, none⟩) (by simp) _).setCell (p := ⟨w.heap.size + 1, 1, none⟩) (by simp) _, .inr ⟨HE.out, some ⟨G7, 0, none⟩, cap7, l', by rw [HLN.out], ?_, by rw [HM10.out, HR1.out]⟩⟩
                            rw [HLN.out]
                            exact (ho10.other hr10 0 _).other (hr10.set_ 0 _) 1 _
                        case mz_4 =>
                          exact AllReadyH.nil
          · have HE : Hid (addE next nds parent role at_ con = mv) := Lib.hid (by rw [hEE, hmv, if_pos hz])
            have HZ := Lib.hid hz
            have d9 : (mv != 0) = true := by rw [bne_iff_ne]; exact hz
            clear h hf hrm hwd hw2 hEE hmv hz
            go_enter Try.func19, Try.ntmps19
            go_wp2_with (first | (go_at_call 53; go_must (refine (HRi.out _ HA0.out.bel).mono ?_; rintro e w1 ⟨rfl, hb1⟩; have ha1 := HA0.out.after hb1; have r0 := ha1.r.cell 0; have r1 := ha1.r.cell 1; have r2 := ha1.r.frozen 0; have r3 := ha1.r.frozen 1; have r4 := ha1.m.cell 0; have r5 := ha1.m.cell 1; simp at r0 r1 r4 r5; have HA1 := Lib.hid ha1; clear ha1 hb1)) | (go_at_call_has 13 con; go_must (refine (HW.out _).mono ?_; rintro e w2 ⟨rfl, rfl⟩)) | (go_at_call 13; go_must (refine (HV.out _).mono ?_; rintro e w2 ⟨rfl, rfl⟩)) | (go_at_call 62; go_must (refine (HAt.out _ HA1.out.bel).mono ?_; rintro e w2 ⟨rfl, hb2⟩; have ha2 := HA1.out.after hb2; have q0 := ha2.r.cell 0; have q1 := ha2.r.cell 1; have q2 := ha2.r.frozen 0; have q3 := ha2.r.frozen 1; have q4 := ha2.m.cell 0; have q5 := ha2.m.cell 1; simp at q0 q1 q4 q5; have HA2 := Lib.hid ha2; clear ha2 hb2)) | (go_at_call 63; go_must (refine (HMy.out _ HA2.out.bel).mono ?_; rintro e w3 ⟨rfl, hb3⟩; have ha3 := HA2.out.after hb3; have p0 := ha3.r.cell 0; have p1 := ha3.r.cell 1; have p2 := ha3.r.frozen 0; have p3 := ha3.r.frozen 1; have p4 := ha3.m.cell 0; have p5 := ha3.m.cell 1; simp at p0 p1 p4 p5; have HA3 := Lib.hid ha3; clear ha3 hb3)))
            (try rw [Exit.noGoto_ret])
            (try simp only [Exit.inBlock, Exit.then])
            refine bodyPost_ret (v := .tuple #[.agg #[.int .i64 0, .slice none 0 0], .int .i64 0, .int .i64 mv]) ?hr rfl ?_
            case hr =>
              simp only [results, hres]
              go_simp
            exact ⟨(HA3.out.bel.setCell (p := ⟨w.heap.size + 1, 0, none⟩) (by simp) _).setCell (p := ⟨w.heap.size + 1, 1, none⟩) (by simp) _, .inl ⟨by rw [HE.out]; exact HZ.out, by rw [HE.out]⟩⟩
end Go.Proofs.Ytnhkghmgkfmiaaa

/-
  WALKS: the checks of lists whose elements' questions are told in XC7.
  WALKS: what is asked of cells and pieces, of editors and templates.
-/
import Derived.Test.YtilemieknfdjnaaGreatZ9
import Derived.Deep.RegionHeld3
namespace Go.Proofs.YtilemieknfdjnaaGreat
open Go Go.RowKit Go.Sort
set_option linter.unusedVariables false
attribute [local go_sem ↓] Go.wp_at_zero Go.wp_at_succ
theorem asks_pd (w : World) (hi : Nat) (A : Option Addr) (n c : Nat) (l : List PropD) (h : Row w 0 hi 2 A n c (l.flatMap pdC)) (hh : hi ≤ w.heap.size) (gl : Nat) (hg : Blk w gl 43 #[.slice A n c]) :
    Asks w 93 #[.pointer (some ⟨gl, 0, none⟩)] (fun q : PropD => .agg #[.string q.name, .int .i64 q.typ]) l (propO l) :=
  ⟨enters_of Tryz.func93 (by kernel_rfl) rfl, fun X hX k q hq => one_pd w X hi A n c l h hh gl hg hX k q hq⟩
theorem asks_kd (w : World) (hi : Nat) (A : Option Addr) (n c : Nat) (l : List KidD) (h : Row w 0 hi 4 A n c (l.flatMap kdC)) (hh : hi ≤ w.heap.size) (gl : Nat) (hg : Blk w gl 44 #[.slice A n c]) :
    Asks w 99 #[.pointer (some ⟨gl, 0, none⟩)] (fun q : KidD => .agg #[.string q.role, .string q.con, .int .i64 q.min, .int .i64 q.max]) l (kidO l) :=
  ⟨enters_of Tryz.func99 (by kernel_rfl) rfl, fun X hX k q hq => one_kd w X hi A n c l h hh gl hg hX k q hq⟩
theorem asks_rd (w : World) (hi : Nat) (A : Option Addr) (n c : Nat) (l : List RefD) (h : Row w 0 hi 3 A n c (l.flatMap rdC)) (hh : hi ≤ w.heap.size) (gl : Nat) (hg : Blk w gl 45 #[.slice A n c]) :
    Asks w 103 #[.pointer (some ⟨gl, 0, none⟩)] (fun q : RefD => .agg #[.string q.role, .string q.con, .bool q.need]) l (refO l) :=
  ⟨enters_of Tryz.func103 (by kernel_rfl) rfl, fun X hX k q hq => one_rd w X hi A n c l h hh gl hg hX k q hq⟩
theorem asks_str (w : World) (hi : Nat) (A : Option Addr) (n c : Nat) (l : List ByteArray) (h : Row w 0 hi 1 A n c (l.flatMap strC)) (hh : hi ≤ w.heap.size) (gl : Nat) (nm : ByteArray) (v1 v3 v4 v5 v6 v7 : Value) (hg : Blk w gl 29 #[.string nm, v1, .slice A n c, v3, v4, v5, v6, v7]) :
    Asks w 45 #[.pointer (some ⟨gl, 0, none⟩)] (fun q : ByteArray => Value.string q) l (useO nm l) :=
  ⟨enters_of Tryz.func45 (by kernel_rfl) rfl, fun X hX k q hq => one_str w X hi A n c l h hh gl nm v1 v3 v4 v5 v6 v7 hg hX k q hq⟩
theorem asks_ru (w : World) (hi : Nat) (A : Option Addr) (n c : Nat) (l : List RuleD) (h : Row w 0 hi 4 A n c (l.flatMap ruC)) (hh : hi ≤ w.heap.size) (gl : Nat) (hg : Blk w gl 24 #[.slice A n c]) :
    Asks w 57 #[.pointer (some ⟨gl, 0, none⟩)] (fun q : RuleD => .agg #[.string q.con, .string q.name, .bool q.scope, .string q.expr]) l (ruleO l) :=
  ⟨enters_of Tryz.func57 (by kernel_rfl) rfl, fun X hX k q hq => one_ru w X hi A n c l h hh gl hg hX k q hq⟩
set_option maxHeartbeats 800000 in
theorem check_pd (w : World) (hi : Nat) (A : Option Addr) (n c : Nat) (l : List PropD) (h : Row w 0 hi 2 A n c (l.flatMap pdC)) (hh : hi ≤ w.heap.size) (FW : FuncId) (cW : Array Value) (pl : Nat → Fa) (HW : Wher w FW cW pl) :
    Calls Tryz.prog 52 #[.slice A n c, .func (.func FW) #[] cW] w (Comes' w (eachV 32 pl (propO l) 0 l)) := by
  have HE : Hid (Calls Tryz.prog 92 #[.slice A n c, .int .i64 32, .func (.func FW) #[] cW, .func (.func 93) #[] #[.pointer (some ⟨w.heap.size, 0, none⟩)]] (w.alloc (.cells #[.slice A n c] 43)) (Comes' (w.alloc (.cells #[.slice A n c] 43)) (eachV 32 pl (propO l) 0 l))) :=
    Lib.hid (each_pd _ hi A n c l (h.keep fun b o hb => (below_of_alloc _).cell (p := ⟨b, o, none⟩) (Nat.lt_of_lt_of_le hb hh)) (Nat.le_trans hh (below_of_alloc _).size) 32 (by decide) FW _ cW _ pl _ (HW.after (below_of_alloc _))
      (asks_pd _ hi A n c l (h.keep fun b o hb => (below_of_alloc _).cell (p := ⟨b, o, none⟩) (Nat.lt_of_lt_of_le hb hh)) (Nat.le_trans hh (below_of_alloc _).size) w.heap.size (Blk.new _ _ _)))
  have HB0 : Hid (Below w.heap.size w (w.alloc (.cells #[.slice A n c] 43))) := Lib.hid (below_of_alloc _)
  clear h HW
  have hmf : ∀ (fn : Fn) (first cap : Array Value) (w : World), (Instr.makeFunc fn first cap).run Tryz.prog w = .ok (.func fn first cap) w := fun _ _ _ _ => rfl
  cases hv : eachV 32 pl (propO l) 0 l with
  | none =>
    rw [hv] at HE
    go_enter Tryz.func52, Tryz.ntmps52
    go_wp2_with (go_at_call 92; (with_reducible refine HE.out.mono ?_); go_must (rintro e w2 ⟨rfl, hb2⟩; have HB2 := Lib.hid (HB0.out.trans (hb2.mono HB0.out.size)); clear hb2))
    (try simp only [Exit.inBlock, Exit.then])
    refine bodyPost_end (results_none (by kernel_rfl) _ _ _) rfl ?_
    exact ⟨rfl, HB2.out⟩
  | some f =>
    rw [hv] at HE
    go_enter Tryz.func52, Tryz.ntmps52
    go_wp2_with (go_at_call 92; (with_reducible refine HE.out.mono ?_); go_must (rintro e w2 ⟨rfl, hb2⟩; have HB2 := Lib.hid (HB0.out.trans (hb2.mono HB0.out.size)); clear hb2))
    exact ⟨rfl, rfl, HB2.out⟩
set_option maxHeartbeats 800000 in
theorem check_kd (w : World) (hi : Nat) (A : Option Addr) (n c : Nat) (l : List KidD) (h : Row w 0 hi 4 A n c (l.flatMap kdC)) (hh : hi ≤ w.heap.size) (FW : FuncId) (cW : Array Value) (pl : Nat → Fa) (HW : Wher w FW cW pl) :
    Calls Tryz.prog 54 #[.slice A n c, .func (.func FW) #[] cW] w (Comes' w (eachV 32 pl (kidO l) 0 l)) := by
  have HE : Hid (Calls Tryz.prog 98 #[.slice A n c, .int .i64 32, .func (.func FW) #[] cW, .func (.func 99) #[] #[.pointer (some ⟨w.heap.size, 0, none⟩)]] (w.alloc (.cells #[.slice A n c] 44)) (Comes' (w.alloc (.cells #[.slice A n c] 44)) (eachV 32 pl (kidO l) 0 l))) :=
    Lib.hid (each_kd _ hi A n c l (h.keep fun b o hb => (below_of_alloc _).cell (p := ⟨b, o, none⟩) (Nat.lt_of_lt_of_le hb hh)) (Nat.le_trans hh (below_of_alloc _).size) 32 (by decide) FW _ cW _ pl _ (HW.after (below_of_alloc _))
      (asks_kd _ hi A n c l (h.keep fun b o hb => (below_of_alloc _).cell (p := ⟨b, o, none⟩) (Nat.lt_of_lt_of_le hb hh)) (Nat.le_trans hh (below_of_alloc _).size) w.heap.size (Blk.new _ _ _)))
  have HB0 : Hid (Below w.heap.size w (w.alloc (.cells #[.slice A n c] 44))) := Lib.hid (below_of_alloc _)
  clear h HW
  have hmf : ∀ (fn : Fn) (first cap : Array Value) (w : World), (Instr.makeFunc fn first cap).run Tryz.prog w = .ok (.func fn first cap) w := fun _ _ _ _ => rfl
  cases hv : eachV 32 pl (kidO l) 0 l with
  | none =>
    rw [hv] at HE
    go_enter Tryz.func54, Tryz.ntmps54
    go_wp2_with (go_at_call 98; (with_reducible refine HE.out.mono ?_); go_must (rintro e w2 ⟨rfl, hb2⟩; have HB2 := Lib.hid (HB0.out.trans (hb2.mono HB0.out.size)); clear hb2))
    (try simp only [Exit.inBlock, Exit.then])
    refine bodyPost_end (results_none (by kernel_rfl) _ _ _) rfl ?_
    exact ⟨rfl, HB2.out⟩
  | some f =>
    rw [hv] at HE
    go_enter Tryz.func54, Tryz.ntmps54
    go_wp2_with (go_at_call 98; (with_reducible refine HE.out.mono ?_); go_must (rintro e w2 ⟨rfl, hb2⟩; have HB2 := Lib.hid (HB0.out.trans (hb2.mono HB0.out.size)); clear hb2))
    exact ⟨rfl, rfl, HB2.out⟩
set_option maxHeartbeats 800000 in
theorem check_rd (w : World) (hi : Nat) (A : Option Addr) (n c : Nat) (l : List RefD) (h : Row w 0 hi 3 A n c (l.flatMap rdC)) (hh : hi ≤ w.heap.size) (FW : FuncId) (cW : Array Value) (pl : Nat → Fa) (HW : Wher w FW cW pl) :
    Calls Tryz.prog 55 #[.slice A n c, .func (.func FW) #[] cW] w (Comes' w (eachV 32 pl (refO l) 0 l)) := by
  have HE : Hid (Calls Tryz.prog 102 #[.slice A n c, .int .i64 32, .func (.func FW) #[] cW, .func (.func 103) #[] #[.pointer (some ⟨w.heap.size, 0, none⟩)]] (w.alloc (.cells #[.slice A n c] 45)) (Comes' (w.alloc (.cells #[.slice A n c] 45)) (eachV 32 pl (refO l) 0 l))) :=
    Lib.hid (each_rd _ hi A n c l (h.keep fun b o hb => (below_of_alloc _).cell (p := ⟨b, o, none⟩) (Nat.lt_of_lt_of_le hb hh)) (Nat.le_trans hh (below_of_alloc _).size) 32 (by decide) FW _ cW _ pl _ (HW.after (below_of_alloc _))
      (asks_rd _ hi A n c l (h.keep fun b o hb => (below_of_alloc _).cell (p := ⟨b, o, none⟩) (Nat.lt_of_lt_of_le hb hh)) (Nat.le_trans hh (below_of_alloc _).size) w.heap.size (Blk.new _ _ _)))
  have HB0 : Hid (Below w.heap.size w (w.alloc (.cells #[.slice A n c] 45))) := Lib.hid (below_of_alloc _)
  clear h HW
  have hmf : ∀ (fn : Fn) (first cap : Array Value) (w : World), (Instr.makeFunc fn first cap).run Tryz.prog w = .ok (.func fn first cap) w := fun _ _ _ _ => rfl
  cases hv : eachV 32 pl (refO l) 0 l with
  | none =>
    rw [hv] at HE
    go_enter Tryz.func55, Tryz.ntmps55
    go_wp2_with (go_at_call 102; (with_reducible refine HE.out.mono ?_); go_must (rintro e w2 ⟨rfl, hb2⟩; have HB2 := Lib.hid (HB0.out.trans (hb2.mono HB0.out.size)); clear hb2))
    (try simp only [Exit.inBlock, Exit.then])
    refine bodyPost_end (results_none (by kernel_rfl) _ _ _) rfl ?_
    exact ⟨rfl, HB2.out⟩
  | some f =>
    rw [hv] at HE
    go_enter Tryz.func55, Tryz.ntmps55
    go_wp2_with (go_at_call 102; (with_reducible refine HE.out.mono ?_); go_must (rintro e w2 ⟨rfl, hb2⟩; have HB2 := Lib.hid (HB0.out.trans (hb2.mono HB0.out.size)); clear hb2))
    exact ⟨rfl, rfl, HB2.out⟩
set_option maxRecDepth 20000 in
set_option maxHeartbeats 1600000 in
theorem check_str (w : World) (hi : Nat) (A : Option Addr) (n c : Nat) (l : List ByteArray) (h : Row w 0 hi 1 A n c (l.flatMap strC)) (hh : hi ≤ w.heap.size) (nm : ByteArray) (v1 v3 v4 v5 v6 v7 : Value) :
    Calls Tryz.prog 18 #[.agg #[.string nm, v1, .slice A n c, v3, v4, v5, v6, v7]] w (Comes' w (eachV 8 (elemF 1) (useO nm l) 0 l)) := by
  have HE : Hid (∀ Y g, Below w.heap.size w Y → Blk Y w.heap.size 29 #[.string nm, v1, .slice A n c, v3, v4, v5, v6, v7] → Blk Y g 3 #[.int .i64 1] → Calls Tryz.prog 44 #[.slice A n c, .int .i64 8, .func (.func 87) #[] #[.pointer (some ⟨g, 0, none⟩)], .func (.func 45) #[] #[.pointer (some ⟨w.heap.size, 0, none⟩)]] Y (Comes' Y (eachV 8 (elemF 1) (useO nm l) 0 l))) :=
    Lib.hid fun Y g hY hb hk => each_str Y hi A n c l (h.keep fun b o hb => hY.cell (p := ⟨b, o, none⟩) (Nat.lt_of_lt_of_le hb hh)) (Nat.le_trans hh hY.size) 8 (by decide) _ _ _ _ _ _ (wher_elem hk)
      (asks_str Y hi A n c l (h.keep fun b o hb => hY.cell (p := ⟨b, o, none⟩) (Nat.lt_of_lt_of_le hb hh)) (Nat.le_trans hh hY.size) w.heap.size nm v1 v3 v4 v5 v6 v7 hb)
  have HQ : Hid (∀ Y, Blk Y w.heap.size 29 #[.string nm, v1, .slice A n c, v3, v4, v5, v6, v7] → Y.cell? ⟨w.heap.size, 2, none⟩ = some (.slice A n c)) := Lib.hid fun Y hb => (hb.cell 2).trans rfl
  clear h
  have hmf : ∀ (fn : Fn) (first cap : Array Value) (w : World), (Instr.makeFunc fn first cap).run Tryz.prog w = .ok (.func fn first cap) w := fun _ _ _ _ => rfl
  cases hv : eachV 8 (elemF 1) (useO nm l) 0 l with
  | none =>
    rw [hv] at HE
    go_enter Tryz.func18, Tryz.ntmps18
    go_upto_region 1 with (fail)
    have HBz : Hid (Below w.heap.size w (w.alloc (.cells #[.string nm, v1, .slice A n c, v3, v4, v5, v6, v7] 29)).drew) := Lib.hid (below_drew (below_of_alloc _))
    have HXz : Hid (Blk (w.alloc (.cells #[.string nm, v1, .slice A n c, v3, v4, v5, v6, v7] 29)).drew w.heap.size 29 #[.string nm, v1, .slice A n c, v3, v4, v5, v6, v7]) := Lib.hid (Blk.drew (Blk.new _ _ _))
    refine wp_region_held_tail 4 (fun Y => Y.cell? ⟨w.heap.size, 2, none⟩ = some (.slice A n c)) (by kernel_rfl) (by kernel_rfl) ?hSt (fun hHeld => ?qt0)
    case hSt => exact HQ.out _ HXz.out
    case qt0 =>
      simp only [List.take_succ_cons, List.take_zero, List.drop_succ_cons, List.drop_zero]
      refine wpAnyH_take (i := 0) (v := (.pointer (some ⟨w.heap.size, 2, none⟩))) rfl (by kernel_rfl) (by kernel_rfl) (by kernel_rfl) (fun _ _ _ h => h) (Or.inl ⟨by rfl, ?yt_1⟩) (by assumption) ?qt_1
      case yt_1 => (intro w hSw; (try dsimp only at hSw); go_simp)
      case qt_1 =>
        (try simp only [Act.put]); (try simp only [List.setIfInBounds_toArray])
        refine wpAnyH_take (i := 1) (v := (.slice A n c)) rfl (by kernel_rfl) (by kernel_rfl) (by kernel_rfl) (fun _ _ _ h => h) (Or.inl ⟨by rfl, ?yt_2⟩) (by assumption) ?qt_2
        case yt_2 => (intro w hSw; (try dsimp only at hSw); go_simp)
        case qt_2 =>
          (try simp only [Act.put]); (try simp only [List.setIfInBounds_toArray])
          refine wpAnyH_take (i := 3) (v := (.func (.func 45) #[] #[.pointer (some ⟨w.heap.size, 0, none⟩)])) rfl (by kernel_rfl) (by kernel_rfl) (by kernel_rfl) (fun _ _ _ h => h) (Or.inl ⟨by rfl, ?yt_3⟩) (by assumption) ?qt_3
          case yt_3 => (intro w hSw; (try dsimp only at hSw); go_simp)
          case qt_3 =>
            (try simp only [Act.put]); (try simp only [List.setIfInBounds_toArray])
            refine wpAnyH_ready (rs := [2]) (by kernel_rfl) (by simp) ?_
            refine AllReadyH.cons rfl (fun K hK => ?st_4) ?mt_4
            case st_4 =>
              (refine step_call _ (by rfl) 41 #[.int .i64 1] (by go_simp) (elements_any _ _) ?_; rintro e1 Y1 ⟨rfl, hbk1, hb1⟩; refine ⟨_, rfl, ?_⟩; have HK1 : Hid (Blk Y1 (w.heap.size + 1) 3 #[.int .i64 1]) := Lib.hid (by simpa using hbk1); have HXz := Lib.hid (HXz.out.after hb1); have HBz := Lib.hid (HBz.out.trans (hb1.mono HBz.out.size)); clear hb1 hbk1)
              refine hK.out _ _ ?kt_4 (fun hHeld => ?qt_4)
              case kt_4 => ((try dsimp only); exact HQ.out _ HXz.out)
              case qt_4 =>
                clear hK K
                (try simp only [Act.put]); (try simp only [List.setIfInBounds_toArray])
                refine wpAnyH_done (by kernel_rfl) ?_ _
                clear hHeld
                show wpList _ _ _ _ _ _
                go_wp2_with (go_at_call 44; (with_reducible refine (HE.out _ (w.heap.size + 1) HBz.out HXz.out HK1.out).mono ?_); go_must (rintro e2 Y2 ⟨rfl, hb2⟩; have HB2 : Hid (Below w.heap.size w Y2) := Lib.hid (HBz.out.trans (hb2.mono HBz.out.size)); clear hb2))
                (try simp only [Exit.inBlock, Exit.then])
                refine bodyPost_end (results_none (by kernel_rfl) _ _ _) rfl ?_
                exact ⟨rfl, HB2.out⟩
            case mt_4 =>
              exact AllReadyH.nil
  | some f =>
    rw [hv] at HE
    go_enter Tryz.func18, Tryz.ntmps18
    go_upto_region 1 with (fail)
    have HBz : Hid (Below w.heap.size w (w.alloc (.cells #[.string nm, v1, .slice A n c, v3, v4, v5, v6, v7] 29)).drew) := Lib.hid (below_drew (below_of_alloc _))
    have HXz : Hid (Blk (w.alloc (.cells #[.string nm, v1, .slice A n c, v3, v4, v5, v6, v7] 29)).drew w.heap.size 29 #[.string nm, v1, .slice A n c, v3, v4, v5, v6, v7]) := Lib.hid (Blk.drew (Blk.new _ _ _))
    refine wp_region_held_tail 4 (fun Y => Y.cell? ⟨w.heap.size, 2, none⟩ = some (.slice A n c)) (by kernel_rfl) (by kernel_rfl) ?hSt (fun hHeld => ?qt0)
    case hSt => exact HQ.out _ HXz.out
    case qt0 =>
      simp only [List.take_succ_cons, List.take_zero, List.drop_succ_cons, List.drop_zero]
      refine wpAnyH_take (i := 0) (v := (.pointer (some ⟨w.heap.size, 2, none⟩))) rfl (by kernel_rfl) (by kernel_rfl) (by kernel_rfl) (fun _ _ _ h => h) (Or.inl ⟨by rfl, ?yu_1⟩) (by assumption) ?qu_1
      case yu_1 => (intro w hSw; (try dsimp only at hSw); go_simp)
      case qu_1 =>
        (try simp only [Act.put]); (try simp only [List.setIfInBounds_toArray])
        refine wpAnyH_take (i := 1) (v := (.slice A n c)) rfl (by kernel_rfl) (by kernel_rfl) (by kernel_rfl) (fun _ _ _ h => h) (Or.inl ⟨by rfl, ?yu_2⟩) (by assumption) ?qu_2
        case yu_2 => (intro w hSw; (try dsimp only at hSw); go_simp)
        case qu_2 =>
          (try simp only [Act.put]); (try simp only [List.setIfInBounds_toArray])
          refine wpAnyH_take (i := 3) (v := (.func (.func 45) #[] #[.pointer (some ⟨w.heap.size, 0, none⟩)])) rfl (by kernel_rfl) (by kernel_rfl) (by kernel_rfl) (fun _ _ _ h => h) (Or.inl ⟨by rfl, ?yu_3⟩) (by assumption) ?qu_3
          case yu_3 => (intro w hSw; (try dsimp only at hSw); go_simp)
          case qu_3 =>
            (try simp only [Act.put]); (try simp only [List.setIfInBounds_toArray])
            refine wpAnyH_ready (rs := [2]) (by kernel_rfl) (by simp) ?_
            refine AllReadyH.cons rfl (fun K hK => ?su_4) ?mu_4
            case su_4 =>
              (refine step_call _ (by rfl) 41 #[.int .i64 1] (by go_simp) (elements_any _ _) ?_; rintro e1 Y1 ⟨rfl, hbk1, hb1⟩; refine ⟨_, rfl, ?_⟩; have HK1 : Hid (Blk Y1 (w.heap.size + 1) 3 #[.int .i64 1]) := Lib.hid (by simpa using hbk1); have HXz := Lib.hid (HXz.out.after hb1); have HBz := Lib.hid (HBz.out.trans (hb1.mono HBz.out.size)); clear hb1 hbk1)
              refine hK.out _ _ ?ku_4 (fun hHeld => ?qu_4)
              case ku_4 => ((try dsimp only); exact HQ.out _ HXz.out)
              case qu_4 =>
                clear hK K
                (try simp only [Act.put]); (try simp only [List.setIfInBounds_toArray])
                refine wpAnyH_done (by kernel_rfl) ?_ _
                clear hHeld
                show wpList _ _ _ _ _ _
                go_wp2_with (go_at_call 44; (with_reducible refine (HE.out _ (w.heap.size + 1) HBz.out HXz.out HK1.out).mono ?_); go_must (rintro e2 Y2 ⟨rfl, hb2⟩; have HB2 : Hid (Below w.heap.size w Y2) := Lib.hid (HBz.out.trans (hb2.mono HBz.out.size)); clear hb2))
                exact ⟨rfl, rfl, HB2.out⟩
            case mu_4 =>
              exact AllReadyH.nil
set_option maxRecDepth 20000 in
set_option maxHeartbeats 1600000 in
theorem check_ru (w : World) (hi : Nat) (A : Option Addr) (n c : Nat) (l : List RuleD) (h : Row w 0 hi 4 A n c (l.flatMap ruC)) (hh : hi ≤ w.heap.size) :
    Calls Tryz.prog 20 #[.slice A n c] w (Comes' w (eachV 256 (elemF 3) (ruleO l) 0 l)) := by
  have HE : Hid (∀ Y g, Below w.heap.size w Y → Blk Y w.heap.size 24 #[.slice A n c] → Blk Y g 3 #[.int .i64 3] → Calls Tryz.prog 56 #[.slice A n c, .int .i64 256, .func (.func 87) #[] #[.pointer (some ⟨g, 0, none⟩)], .func (.func 57) #[] #[.pointer (some ⟨w.heap.size, 0, none⟩)]] Y (Comes' Y (eachV 256 (elemF 3) (ruleO l) 0 l))) :=
    Lib.hid fun Y g hY hb hk => each_ru Y hi A n c l (h.keep fun b o hb => hY.cell (p := ⟨b, o, none⟩) (Nat.lt_of_lt_of_le hb hh)) (Nat.le_trans hh hY.size) 256 (by decide) _ _ _ _ _ _ (wher_elem hk)
      (asks_ru Y hi A n c l (h.keep fun b o hb => hY.cell (p := ⟨b, o, none⟩) (Nat.lt_of_lt_of_le hb hh)) (Nat.le_trans hh hY.size) w.heap.size hb)
  have HQ : Hid (∀ Y, Blk Y w.heap.size 24 #[.slice A n c] → Y.cell? ⟨w.heap.size, 0, none⟩ = some (.slice A n c)) := Lib.hid fun Y hb => (hb.cell 0).trans rfl
  clear h
  have hmf : ∀ (fn : Fn) (first cap : Array Value) (w : World), (Instr.makeFunc fn first cap).run Tryz.prog w = .ok (.func fn first cap) w := fun _ _ _ _ => rfl
  cases hv : eachV 256 (elemF 3) (ruleO l) 0 l with
  | none =>
    rw [hv] at HE
    go_enter Tryz.func20, Tryz.ntmps20
    go_upto_region 1 with (fail)
    have HBz : Hid (Below w.heap.size w (w.alloc (.cells #[.slice A n c] 24)).drew) := Lib.hid (below_drew (below_of_alloc _))
    have HXz : Hid (Blk (w.alloc (.cells #[.slice A n c] 24)).drew w.heap.size 24 #[.slice A n c]) := Lib.hid (Blk.drew (Blk.new _ _ _))
    refine wp_region_held_tail 3 (fun Y => Y.cell? ⟨w.heap.size, 0, none⟩ = some (.slice A n c)) (by kernel_rfl) (by kernel_rfl) ?hSt (fun hHeld => ?qt0)
    case hSt => exact HQ.out _ HXz.out
    case qt0 =>
      simp only [List.take_succ_cons, List.take_zero, List.drop_succ_cons, List.drop_zero]
      refine wpAnyH_take (i := 0) (v := (.slice A n c)) rfl (by kernel_rfl) (by kernel_rfl) (by kernel_rfl) (fun _ _ _ h => h) (Or.inl ⟨by rfl, ?yt_1⟩) (by assumption) ?qt_1
      case yt_1 => (intro w hSw; (try dsimp only at hSw); go_simp)
      case qt_1 =>
        (try simp only [Act.put]); (try simp only [List.setIfInBounds_toArray])
        refine wpAnyH_take (i := 2) (v := (.func (.func 57) #[] #[.pointer (some ⟨w.heap.size, 0, none⟩)])) rfl (by kernel_rfl) (by kernel_rfl) (by kernel_rfl) (fun _ _ _ h => h) (Or.inl ⟨by rfl, ?yt_2⟩) (by assumption) ?qt_2
        case yt_2 => (intro w hSw; (try dsimp only at hSw); go_simp)
        case qt_2 =>
          (try simp only [Act.put]); (try simp only [List.setIfInBounds_toArray])
          refine wpAnyH_ready (rs := [1]) (by kernel_rfl) (by simp) ?_
          refine AllReadyH.cons rfl (fun K hK => ?st_3) ?mt_3
          case st_3 =>
            (refine step_call _ (by rfl) 41 #[.int .i64 3] (by go_simp) (elements_any _ _) ?_; rintro e1 Y1 ⟨rfl, hbk1, hb1⟩; refine ⟨_, rfl, ?_⟩; have HK1 : Hid (Blk Y1 (w.heap.size + 1) 3 #[.int .i64 3]) := Lib.hid (by simpa using hbk1); have HXz := Lib.hid (HXz.out.after hb1); have HBz := Lib.hid (HBz.out.trans (hb1.mono HBz.out.size)); clear hb1 hbk1)
            refine hK.out _ _ ?kt_3 (fun hHeld => ?qt_3)
            case kt_3 => ((try dsimp only); exact HQ.out _ HXz.out)
            case qt_3 =>
              clear hK K
              (try simp only [Act.put]); (try simp only [List.setIfInBounds_toArray])
              refine wpAnyH_done (by kernel_rfl) ?_ _
              clear hHeld
              show wpList _ _ _ _ _ _
              go_wp2_with (go_at_call 56; (with_reducible refine (HE.out _ (w.heap.size + 1) HBz.out HXz.out HK1.out).mono ?_); go_must (rintro e2 Y2 ⟨rfl, hb2⟩; have HB2 : Hid (Below w.heap.size w Y2) := Lib.hid (HBz.out.trans (hb2.mono HBz.out.size)); clear hb2))
              (try simp only [Exit.inBlock, Exit.then])
              refine bodyPost_end (results_none (by kernel_rfl) _ _ _) rfl ?_
              exact ⟨rfl, HB2.out⟩
          case mt_3 =>
            exact AllReadyH.nil
  | some f =>
    rw [hv] at HE
    go_enter Tryz.func20, Tryz.ntmps20
    go_upto_region 1 with (fail)
    have HBz : Hid (Below w.heap.size w (w.alloc (.cells #[.slice A n c] 24)).drew) := Lib.hid (below_drew (below_of_alloc _))
    have HXz : Hid (Blk (w.alloc (.cells #[.slice A n c] 24)).drew w.heap.size 24 #[.slice A n c]) := Lib.hid (Blk.drew (Blk.new _ _ _))
    refine wp_region_held_tail 3 (fun Y => Y.cell? ⟨w.heap.size, 0, none⟩ = some (.slice A n c)) (by kernel_rfl) (by kernel_rfl) ?hSt (fun hHeld => ?qt0)
    case hSt => exact HQ.out _ HXz.out
    case qt0 =>
      simp only [List.take_succ_cons, List.take_zero, List.drop_succ_cons, List.drop_zero]
      refine wpAnyH_take (i := 0) (v := (.slice A n c)) rfl (by kernel_rfl) (by kernel_rfl) (by kernel_rfl) (fun _ _ _ h => h) (Or.inl ⟨by rfl, ?yu_1⟩) (by assumption) ?qu_1
      case yu_1 => (intro w hSw; (try dsimp only at hSw); go_simp)
      case qu_1 =>
        (try simp only [Act.put]); (try simp only [List.setIfInBounds_toArray])
        refine wpAnyH_take (i := 2) (v := (.func (.func 57) #[] #[.pointer (some ⟨w.heap.size, 0, none⟩)])) rfl (by kernel_rfl) (by kernel_rfl) (by kernel_rfl) (fun _ _ _ h => h) (Or.inl ⟨by rfl, ?yu_2⟩) (by assumption) ?qu_2
        case yu_2 => (intro w hSw; (try dsimp only at hSw); go_simp)
        case qu_2 =>
          (try simp only [Act.put]); (try simp only [List.setIfInBounds_toArray])
          refine wpAnyH_ready (rs := [1]) (by kernel_rfl) (by simp) ?_
          refine AllReadyH.cons rfl (fun K hK => ?su_3) ?mu_3
          case su_3 =>
            (refine step_call _ (by rfl) 41 #[.int .i64 3] (by go_simp) (elements_any _ _) ?_; rintro e1 Y1 ⟨rfl, hbk1, hb1⟩; refine ⟨_, rfl, ?_⟩; have HK1 : Hid (Blk Y1 (w.heap.size + 1) 3 #[.int .i64 3]) := Lib.hid (by simpa using hbk1); have HXz := Lib.hid (HXz.out.after hb1); have HBz := Lib.hid (HBz.out.trans (hb1.mono HBz.out.size)); clear hb1 hbk1)
            refine hK.out _ _ ?ku_3 (fun hHeld => ?qu_3)
            case ku_3 => ((try dsimp only); exact HQ.out _ HXz.out)
            case qu_3 =>
              clear hK K
              (try simp only [Act.put]); (try simp only [List.setIfInBounds_toArray])
              refine wpAnyH_done (by kernel_rfl) ?_ _
              clear hHeld
              show wpList _ _ _ _ _ _
              go_wp2_with (go_at_call 56; (with_reducible refine (HE.out _ (w.heap.size + 1) HBz.out HXz.out HK1.out).mono ?_); go_must (rintro e2 Y2 ⟨rfl, hb2⟩; have HB2 : Hid (Below w.heap.size w Y2) := Lib.hid (HBz.out.trans (hb2.mono HBz.out.size)); clear hb2))
              exact ⟨rfl, rfl, HB2.out⟩
          case mu_3 =>
            exact AllReadyH.nil
end Go.Proofs.YtilemieknfdjnaaGreat
namespace Go.Proofs.YtilemieknfdjnaaGreat
open Go Go.RowKit Go.Sort
set_option linter.unusedVariables false
attribute [local go_sem ↓] Go.wp_at_zero Go.wp_at_succ
set_option maxHeartbeats 800000 in
theorem cellErr_any (w : World) (q : CellD) (kinds : Int) (ht : q.text.size < 4611686018427387904) (hm : q.mark.size < 4611686018427387904) : Calls Tryz.prog 71 #[.agg #[.int .i64 q.kind, .string q.text, .string q.mark], .int .i64 kinds] w (Ret w (.int .i64 (cellErr kinds q))) := by
  have hwr : IntKind.i64.wrap ((q.text.size : Int) + (q.mark.size : Int)) = (q.text.size : Int) + (q.mark.size : Int) := IntWalk.i64_in _ (by omega)
  have HB0 : Hid (Below w.heap.size w (w.alloc (.cells #[.int .i64 q.kind, .string q.text, .string q.mark] 74))) := Lib.hid (below_of_alloc _)
  have HX0 : Hid (Blk (w.alloc (.cells #[.int .i64 q.kind, .string q.text, .string q.mark] 74)) w.heap.size 74 #[.int .i64 q.kind, .string q.text, .string q.mark]) := Lib.hid (Blk.new _ _ _)
  cases h1 : withinB q.kind 1 kinds with
  | false =>
    have H1 := Lib.hid h1
    have HR : Hid (cellErr kinds q = 2) := Lib.hid (by unfold cellErr; rw [h1]; rfl)
    rw [HR.out]
    clear h1
    go_enter Tryz.func71, Tryz.ntmps71
    go_wp2_with (go_at_call 96; (with_reducible refine (within_any _ _ _ _).mono ?_); go_must (rintro e2 Y2 ⟨rfl, hb2⟩; rw [H1.out]; have HB2 := Lib.hid (HB0.out.trans (hb2.mono HB0.out.size)); clear hb2))
    go_ret
    exact ⟨rfl, HB2.out⟩
  | true =>
    have H1 := Lib.hid h1
    by_cases h2 : 4096 < q.text.size + q.mark.size
    all_goals (
      have d2 : decide ((4096 : Int) < (q.text.size : Int) + (q.mark.size : Int)) = decide (4096 < q.text.size + q.mark.size) := by rw [Bool.eq_iff_iff]; simp; omega
      have HR : Hid (cellErr kinds q = if 4096 < q.text.size + q.mark.size then 3 else 0) := Lib.hid (by unfold cellErr; rw [h1]; rfl)
      simp only [h2, if_true, if_false, decide_true, decide_false] at HR d2
      rw [HR.out]
      clear h1 h2
      go_enter Tryz.func71, Tryz.ntmps71
      go_wp2_with (go_at_call 96; (with_reducible refine (within_any _ _ _ _).mono ?_); go_must (rintro e2 Y2 ⟨rfl, hb2⟩; rw [H1.out]; have HB2 := Lib.hid (HB0.out.trans (hb2.mono HB0.out.size)); have hx2 := HX0.out.after hb2; have c1 := hx2.cell 1; have c2 := hx2.cell 2; simp at c1 c2; clear hb2 hx2))
      go_ret
      exact ⟨rfl, HB2.out⟩)
/-- the sizes of a row's texts -/
def CellFit (q : CellD) : Prop := q.text.size < 4611686018427387904 ∧ q.mark.size < 4611686018427387904
set_option maxHeartbeats 800000 in
theorem rowcell_ed (X : World) (q : CellD) (hf : CellFit q) (k : Nat) (gk : Nat) (kinds : Int) (h : X.cell? ⟨gk, 0, none⟩ = some (.int .i64 kinds)) (hg : gk < X.heap.size) :
    Calls Tryz.prog 70 #[.int .i64 k, .agg #[.int .i64 q.kind, .string q.text, .string q.mark], .pointer (some ⟨gk, 0, none⟩)] X (Ret X (.int .i64 (cellErr kinds q))) := by
  have h' := past_cell h hg
  obtain ⟨hf1, hf2⟩ := hf
  have HB0 : Hid (Below X.heap.size X (X.alloc (.cells #[.int .i64 q.kind, .string q.text, .string q.mark] 74))) := Lib.hid (below_of_alloc _)
  go_enter Tryz.func70, Tryz.ntmps70
  go_wp2_with (go_at_call 71; (with_reducible refine (cellErr_any _ q kinds hf1 hf2).mono ?_); go_must (rintro e2 Y2 ⟨rfl, hb2⟩; have HB2 := Lib.hid (HB0.out.trans (hb2.mono HB0.out.size)); clear hb2))
  go_ret
  exact ⟨rfl, HB2.out⟩
theorem asks_edc (w : World) (l : List CellD) (hl : ∀ q ∈ l, CellFit q) (gk : Nat) (kinds : Int) (hk : Blk w gk 3 #[.int .i64 kinds]) : Asks w 70 #[.pointer (some ⟨gk, 0, none⟩)] (fun q : CellD => .agg #[.int .i64 q.kind, .string q.text, .string q.mark]) l (fun _ c => .ret (cellErr kinds c)) :=
  ⟨enters_of Tryz.func70 (by kernel_rfl) rfl, fun X hX k q hq => rowcell_ed X q (hl q (List.mem_of_getElem? hq)) k gk kinds (((hk.after hX).cell 0).trans rfl) (hk.after hX).lt⟩
set_option maxHeartbeats 400000 in
theorem open_ed (w : World) (q : RowD × Sl) : Calls Tryz.prog 23 #[.agg #[.string q.1.con, .slice q.2.A q.2.n q.2.c]] w (fun e w' => e = .returned (.tuple #[.string q.1.con, .slice q.2.A q.2.n q.2.c]) ∧ Below w.heap.size w w') := by
  go_enter Tryz.func23, Tryz.ntmps23
  go_wp2
  go_quiet (fail)
  go_wp2
  all_goals (
    go_ret2
    exact ⟨rfl, by (repeat (first | exact Below.refl _ _ | refine below_more ?_ _ | refine Below.setCell' ?_ (Nat.le_refl _) _ | refine below_drew ?_ | refine below_drewN ?_ _))⟩)
set_option maxHeartbeats 800000 in
theorem like_ed (X : World) (x : RowD × Sl) (con : ByteArray) (go gc : Nat) (ho : X.cell? ⟨go, 0, none⟩ = some (.func (.func 23) #[] #[])) (hgo : go < X.heap.size) (hc : Blk X gc 9 #[.string con]) :
    Calls Tryz.prog 67 #[.agg #[.string x.1.con, .slice x.2.A x.2.n x.2.c], .pointer (some ⟨go, 0, none⟩), .pointer (some ⟨gc, 0, none⟩)] X (Ret X (.bool (bEq x.1.con con))) := by
  have h' := past_cell ho hgo
  have HB0 : Hid (Below X.heap.size X (X.alloc (.cells #[.string x.1.con, .slice x.2.A x.2.n x.2.c] 55))) := Lib.hid (below_of_alloc _)
  have HC0 : Hid (Blk (X.alloc (.cells #[.string x.1.con, .slice x.2.A x.2.n x.2.c] 55)) gc 9 #[.string con]) := Lib.hid (hc.alloc _)
  clear hc
  unfold bEq
  go_enter Tryz.func67, Tryz.ntmps67
  go_wp2_with (go_at_call 23; (with_reducible refine (open_ed _ x).mono ?_); go_must (rintro e2 Y2 ⟨rfl, hb2⟩; have HB2 := Lib.hid (HB0.out.trans (hb2.mono HB0.out.size)); have c2 := (HC0.out.after hb2).cell 0; simp at c2; clear hb2))
  go_ret
  exact ret_b (by first | rfl | (simp; done)) rfl HB2.out
theorem tells_ed {w : World} {con : ByteArray} {go gc : Nat} (ho : Blk w go 75 #[.func (.func 23) #[] #[]]) (hc : Blk w gc 9 #[.string con]) (l : List (RowD × Sl)) : Tells w 67 #[.pointer (some ⟨go, 0, none⟩), .pointer (some ⟨gc, 0, none⟩)] (fun q : RowD × Sl => .agg #[.string q.1.con, .slice q.2.A q.2.n q.2.c]) l (fun y => bEq y.1.con con) :=
  ⟨enters_of Tryz.func67 (by kernel_rfl) rfl, fun X hX x _ => like_ed X x con go gc (((ho.after hX).cell 0).trans rfl) (ho.after hX).lt (hc.after hX)⟩
set_option maxHeartbeats 800000 in
theorem rowcell_te (X : World) (q : CellD) (hf : CellFit q) (k : Nat) (gk : Nat) (kinds : Int) (h : X.cell? ⟨gk, 0, none⟩ = some (.int .i64 kinds)) (hg : gk < X.heap.size) :
    Calls Tryz.prog 77 #[.int .i64 k, .agg #[.int .i64 q.kind, .string q.text, .string q.mark], .pointer (some ⟨gk, 0, none⟩)] X (Ret X (.int .i64 (cellErr kinds q))) := by
  have h' := past_cell h hg
  obtain ⟨hf1, hf2⟩ := hf
  have HB0 : Hid (Below X.heap.size X (X.alloc (.cells #[.int .i64 q.kind, .string q.text, .string q.mark] 77))) := Lib.hid (below_of_alloc _)
  go_enter Tryz.func77, Tryz.ntmps77
  go_wp2_with (go_at_call 71; (with_reducible refine (cellErr_any _ q kinds hf1 hf2).mono ?_); go_must (rintro e2 Y2 ⟨rfl, hb2⟩; have HB2 := Lib.hid (HB0.out.trans (hb2.mono HB0.out.size)); clear hb2))
  go_ret
  exact ⟨rfl, HB2.out⟩
theorem asks_tec (w : World) (l : List CellD) (hl : ∀ q ∈ l, CellFit q) (gk : Nat) (kinds : Int) (hk : Blk w gk 3 #[.int .i64 kinds]) : Asks w 77 #[.pointer (some ⟨gk, 0, none⟩)] (fun q : CellD => .agg #[.int .i64 q.kind, .string q.text, .string q.mark]) l (fun _ c => .ret (cellErr kinds c)) :=
  ⟨enters_of Tryz.func77 (by kernel_rfl) rfl, fun X hX k q hq => rowcell_te X q (hl q (List.mem_of_getElem? hq)) k gk kinds (((hk.after hX).cell 0).trans rfl) (hk.after hX).lt⟩
set_option maxHeartbeats 400000 in
theorem open_te (w : World) (q : RowD × Sl) : Calls Tryz.prog 25 #[.agg #[.string q.1.con, .slice q.2.A q.2.n q.2.c]] w (fun e w' => e = .returned (.tuple #[.string q.1.con, .slice q.2.A q.2.n q.2.c]) ∧ Below w.heap.size w w') := by
  go_enter Tryz.func25, Tryz.ntmps25
  go_wp2
  go_quiet (fail)
  go_wp2
  all_goals (
    go_ret2
    exact ⟨rfl, by (repeat (first | exact Below.refl _ _ | refine below_more ?_ _ | refine Below.setCell' ?_ (Nat.le_refl _) _ | refine below_drew ?_ | refine below_drewN ?_ _))⟩)
set_option maxHeartbeats 800000 in
theorem like_te (X : World) (x : RowD × Sl) (con : ByteArray) (go gc : Nat) (ho : X.cell? ⟨go, 0, none⟩ = some (.func (.func 25) #[] #[])) (hgo : go < X.heap.size) (hc : Blk X gc 9 #[.string con]) :
    Calls Tryz.prog 74 #[.agg #[.string x.1.con, .slice x.2.A x.2.n x.2.c], .pointer (some ⟨go, 0, none⟩), .pointer (some ⟨gc, 0, none⟩)] X (Ret X (.bool (bEq x.1.con con))) := by
  have h' := past_cell ho hgo
  have HB0 : Hid (Below X.heap.size X (X.alloc (.cells #[.string x.1.con, .slice x.2.A x.2.n x.2.c] 58))) := Lib.hid (below_of_alloc _)
  have HC0 : Hid (Blk (X.alloc (.cells #[.string x.1.con, .slice x.2.A x.2.n x.2.c] 58)) gc 9 #[.string con]) := Lib.hid (hc.alloc _)
  clear hc
  unfold bEq
  go_enter Tryz.func74, Tryz.ntmps74
  go_wp2_with (go_at_call 25; (with_reducible refine (open_te _ x).mono ?_); go_must (rintro e2 Y2 ⟨rfl, hb2⟩; have HB2 := Lib.hid (HB0.out.trans (hb2.mono HB0.out.size)); have c2 := (HC0.out.after hb2).cell 0; simp at c2; clear hb2))
  go_ret
  exact ret_b (by first | rfl | (simp; done)) rfl HB2.out
theorem tells_te {w : World} {con : ByteArray} {go gc : Nat} (ho : Blk w go 78 #[.func (.func 25) #[] #[]]) (hc : Blk w gc 9 #[.string con]) (l : List (RowD × Sl)) : Tells w 74 #[.pointer (some ⟨go, 0, none⟩), .pointer (some ⟨gc, 0, none⟩)] (fun q : RowD × Sl => .agg #[.string q.1.con, .slice q.2.A q.2.n q.2.c]) l (fun y => bEq y.1.con con) :=
  ⟨enters_of Tryz.func74 (by kernel_rfl) rfl, fun X hX x _ => like_te X x con go gc (((ho.after hX).cell 0).trans rfl) (ho.after hX).lt (hc.after hX)⟩
end Go.Proofs.YtilemieknfdjnaaGreat

/-
  BYTES IN A SLICE OF THE CALL's OWN: append of bytes, append of a string, a string made of them: each as the walk takes it.
-/
import Derived.Test.YtinhlemebnlijaaDoorRows
import Derived.WalkKit
import Derived.WalkSpells
import Derived.WalkLawsBesides
import Derived.Lib.AppendStr
import Derived.Deep.RegionLaw
import Derived.RegionTactic
import Derived.BigRegion
import Derived.Deep.QuietTactic
import Derived.BigQuiet
import Derived.Lib.BufferRead
namespace Go.Proofs.YtinhlemebnlijaaDoor
open Go Go.RowKit
set_option linter.unusedVariables false
def enc (c : UInt8) : Value := .int .u8 (c.toNat : Int)
theorem enc_one (l : List UInt8) : ∀ u ∈ l.map enc, u.oneCell' = true := by
  intro u hu
  rw [List.mem_map] at hu
  obtain ⟨b, _, rfl⟩ := hu
  rfl
/-- the slice v of bytes holds l, in a block of the call's own (from B on), or is nil -/
def ownB (w : World) (B : Nat) (v : Value) (l : List UInt8) : Prop := w.ownsRow B 5 1 v l.length (l.map enc)
theorem byteInfo : (Tryd.prog.info? 5).map (fun i => (i.zero, i.size, i.bytes)) = some (some (.int .u8 0), 1, 1) := by kernel_rfl
theorem ownB.alloc {w : World} {B : Nat} {v : Value} {l : List UInt8} (h : ownB w B v l) (o : Obj) : ownB (w.alloc o) B v l := World.ownsRow.alloc h o
theorem ownB.nil (w : World) (B : Nat) : ownB w B (.slice none 0 0) [] := World.ownsRow_nil w B _ _
theorem ownB.below {w w' : World} {B : Nat} {v : Value} {l : List UInt8} (h : ownB w B v l) (hb : Below w.heap.size w w') : ownB w' B v l := by
  refine ⟨h.1, ?_⟩
  rcases h.2 with hn | ⟨g, cap, cur, rfl, hbg, hgg, rest⟩
  · exact .inl hn
  · refine .inr ⟨g, cap, cur, rfl, hbg, ?_, rest⟩
    rw [hb.block g (Array.getElem?_eq_some_iff.1 hgg).1]
    exact hgg
theorem ownB.grown {w w' : World} {B : Nat} {v : Value} {l : List UInt8} (h : ownB w B v l) (hB : B ≤ w.heap.size) (hg : w.grownBy w' v.ownBlock) : Below B w w' :=
  (Below.refl _ _).grown hg hB (fun k hk => (World.ownsRow.lt h k hk).1)
/-- append of bytes that lie in memory -/
theorem app_bytes {w : World} {ops : Array Oper} {rest : List Oper} {o : Oper} {a : Act} {Q : Exit → Act → World → Prop} (hgd : o.guard = none) (s x : Operand)
    (ho : o.op = .call { callee := .builtin .append, args := #[s, x], argTypes := #[42, 42] })
    (B : Nat) (v : Value) (l : List UInt8) (hs : a.eval s = v) (hown : ownB w B v l) (ad : Addr) (m c : Nat) (news : List UInt8) (hx : a.eval x = .slice (some ad) m c) (hl : news.length = m)
    (hnews : ∀ j u, (news.map enc)[j]? = some u → w.cell? (ad.add j) = some u) (hroom : l.length + m ≤ 140737488355328) (hB : B ≤ w.heap.size)
    (h : ∀ v' w', ownB w' B v' (l ++ news) → Below B w w' → wpList Tryd.prog ops Q rest (a.put o.dst v') w') : wpList Tryd.prog ops Q (o :: rest) a w := by
  obtain ⟨i0, hi, hz0, hz1, hz2⟩ := info_parts byteInfo
  refine wpList_append_own w hgd s x _ ho B 5 i0 (.int .u8 0) 1 1 Tryd.underlying42 hi hz0 hz1 hz2 rfl (by decide) v l.length (l.map enc) hs hown ad m c (news.map enc) hx (by simp [hl]) hnews (enc_one _) (by unfold maxLen; omega) (by omega) hB ?_
  intro v' w' hown' hg _
  refine h v' w' ?_ (ownB.grown hown hB hg)
  unfold ownB
  rw [List.length_append, List.map_append, hl]
  exact hown'
/-- the same, as a step of a region that draws its order -/
theorem step_app_bytes {w : World} {ops : Array Oper} {o : Oper} {a : Act} {K : Act → World → Prop} {Q : Exit → Act → World → Prop} {E : Prop} (hgd : o.guard = none) (s x : Operand)
    (ho : o.op = .call { callee := .builtin .append, args := #[s, x], argTypes := #[42, 42] })
    (B : Nat) (v : Value) (l : List UInt8) (hs : a.eval s = v) (hown : ownB w B v l) (ad : Addr) (m c : Nat) (news : List UInt8) (hx : a.eval x = .slice (some ad) m c) (hl : news.length = m)
    (hnews : ∀ j u, (news.map enc)[j]? = some u → w.cell? (ad.add j) = some u) (hroom : l.length + m ≤ 140737488355328) (hB : B ≤ w.heap.size)
    (h : ∀ v' w', ownB w' B v' (l ++ news) → Below B w w' → K (a.put o.dst v') w') : if Region.wanted o (yielded ops a.tmps) = true then Oper.wp Tryd.prog o a w K Q else E := by
  have hw : Region.wanted o (yielded ops a.tmps) = true := by simp [Region.wanted, hgd]
  rw [if_pos hw]
  obtain ⟨i0, hi, hz0, hz1, hz2⟩ := info_parts byteInfo
  refine wp_append_own w s x _ ho B 5 i0 (.int .u8 0) 1 1 Tryd.underlying42 hi hz0 hz1 hz2 rfl (by decide) v l.length (l.map enc) hs hown ad m c (news.map enc) hx (by simp [hl]) hnews (enc_one _) (by unfold maxLen; omega) (by omega) hB ?_
  intro v' w' hown' hg _
  refine h v' w' ?_ (ownB.grown hown hB hg)
  unfold ownB
  rw [List.length_append, List.map_append, hl]
  exact hown'
/-- append of a string's bytes -/
theorem app_str {w : World} {ops : Array Oper} {rest : List Oper} {o : Oper} {a : Act} {Q : Exit → Act → World → Prop} (hgd : o.guard = none) (s x : Operand)
    (ho : o.op = .call { callee := .builtin .append, args := #[s, x], argTypes := #[42, 9] })
    (B : Nat) (v : Value) (l : List UInt8) (hs : a.eval s = v) (hown : ownB w B v l) (t : ByteArray) (hx : a.eval x = .string t) (hroom : l.length + t.size ≤ 140737488355328) (hB : B ≤ w.heap.size)
    (h : ∀ v' w', ownB w' B v' (l ++ t.data.toList) → Below B w w' → wpList Tryd.prog ops Q rest (a.put o.dst v') w') : wpList Tryd.prog ops Q (o :: rest) a w := by
  obtain ⟨i0, hi, hz0, hz1, hz2⟩ := info_parts byteInfo
  refine Lib.wpList_append_own_string w hgd s x _ _ ho B 5 i0 Tryd.underlying42 Tryd.underlying9 hi hz0 hz1 hz2 v l.length (l.map enc) hs hown t hx (by unfold maxLen; omega) (by omega) hB ?_
  intro v' w' hown' hg _
  refine h v' w' ?_ (ownB.grown hown hB hg)
  unfold ownB
  rw [List.length_append, List.map_append, Array.length_toList]
  exact hown'
theorem fold_push (l : List UInt8) : ∀ r : ByteArray, (l.map fun c => (c.toNat : Int)).foldl (fun r n => r.push (UInt8.ofNat n.toNat)) r = ⟨r.data ++ l.toArray⟩ := by
  induction l with
  | nil => intro r; simp
  | cons c l ih =>
    intro r
    rw [List.map_cons, List.foldl_cons, ih]
    simp [ByteArray.push]
/-- string(b) of such a slice -/
theorem conv_own {w : World} {B : Nat} {v : Value} {l : List UInt8} (h : ownB w B v l) : (convert 42 9 v).run Tryd.prog w = .ok (.string ⟨l.toArray⟩) w := by
  rcases h.2 with ⟨rfl, h0⟩ | ⟨g, cap, cur, rfl, hbg, hgg, hle, hmax, hsz, htk⟩
  · obtain rfl : l = [] := List.length_eq_zero_iff.1 h0
    exact Lib.run_convert_nil_bytes w _ _ _ _ Tryd.underlying42 Tryd.underlying5 Tryd.underlying9
  · rw [run_convert_bytes_string w _ _ _ _ _ _ Tryd.underlying42 Tryd.underlying5 Tryd.underlying9]
    have hc := World.ownsRow.cells h (g := g) rfl
    have hload := run_loadCells_list (P := Tryd.prog) w ⟨g, 0, none⟩ (l.map enc) hc
    rw [List.length_map] at hload
    have := run_bytesToString (P := Tryd.prog) w ⟨g, 0, none⟩ l.length cap (l.map fun c => (c.toNat : Int)) (by rw [hload]; congr 2; simp [enc])
    rw [this, fold_push]
    simp
theorem ownB_lit (w : World) (cs : Array Value) (news : List UInt8) (hc : cs.toList = news.map enc) (hm : news.length ≤ maxLen) : ownB (w.alloc (.cells cs 5)) w.heap.size (.slice (some ⟨w.heap.size, 0, none⟩) news.length news.length) news := by
  have hs : cs.size = news.length := by rw [← Array.length_toList, hc, List.length_map]
  have h := World.ownsRow_lit (base := w.heap.size) (e := 5) (size := 1) w cs news.length (Nat.le_refl _) hm (by omega)
  unfold ownB
  rw [← hc]
  exact h
theorem conv_lit (w : World) (cs : Array Value) (news : List UInt8) (hc : cs.toList = news.map enc) (hm : news.length ≤ maxLen) :
    (convert 42 9 (.slice (some ⟨w.heap.size, 0, none⟩) news.length news.length)).run Tryd.prog (w.alloc (.cells cs 5)) = .ok (.string ⟨news.toArray⟩) (w.alloc (.cells cs 5)) :=
  conv_own (ownB_lit w cs news hc hm)
end Go.Proofs.YtinhlemebnlijaaDoor

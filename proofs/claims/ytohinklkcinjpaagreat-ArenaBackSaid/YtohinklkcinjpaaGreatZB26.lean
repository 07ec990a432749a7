/-
  WALKS: sorted: a model, told but for the order of its kids.
  PLAIN: what is added and taken away again, and what is moved away and back.
  PLAIN: a node that was moved away comes back.
  PLAIN: a node that was moved away comes back to its place.
  WALKS: whatever is done to a model, it stays a right one.
-/
import Derived.Test.YtohinklkcinjpaaGreatZB25
import Derived.WalkSpells
import Derived.WalkLawsBesides
import Derived.Lib.AppendStr
import Derived.Lib.BufferRead
import Derived.IntWalk
import Derived.Deep.QuietTactic
import Derived.BigQuiet
namespace Go.Proofs.YtohinklkcinjpaaGreat
open Go Go.RowKit Go.Sort
set_option linter.unusedVariables false
attribute [local go_sem ↓] Go.wp_at_zero Go.wp_at_succ
def encB (c : UInt8) : Value := .int .u8 (c.toNat : Int)
theorem encB_one (l : List UInt8) : ∀ u ∈ l.map encB, u.oneCell' = true := by
  intro u hu
  rw [List.mem_map] at hu
  obtain ⟨b, _, rfl⟩ := hu
  rfl
/-- the slice v of bytes holds l, in a block of the call's own -/
def ownBs (w : World) (B : Nat) (v : Value) (l : List UInt8) : Prop := w.ownsRow B 5 1 v l.length (l.map encB)
theorem byteInfoB : (Tryz.prog.info? 5).map (fun i => (i.zero, i.size, i.bytes)) = some (some (.int .u8 0), 1, 1) := by kernel_rfl
theorem ownBs.nil (w : World) (B : Nat) : ownBs w B (.slice none 0 0) [] := World.ownsRow_nil w B _ _
theorem ownBs.after {w w' : World} {B : Nat} {v : Value} {l : List UInt8} (h : ownBs w B v l) (hb : Below w.heap.size w w') : ownBs w' B v l := own_after h hb
theorem ownBs.grown {w w' : World} {B : Nat} {v : Value} {l : List UInt8} (h : ownBs w B v l) (hB : B ≤ w.heap.size) (hg : w.grownBy w' v.ownBlock) : Below B w w' :=
  (Below.refl _ _).grown hg hB (fun k hk => (World.ownsRow.lt h k hk).1)
theorem app_bytesB {w : World} {ops : Array Oper} {rest : List Oper} {o : Oper} {a : Act} {Q : Exit → Act → World → Prop} (hgd : o.guard = none) (s x : Operand)
    (ho : o.op = .call { callee := .builtin .append, args := #[s, x], argTypes := #[91, 91] })
    (B : Nat) (v : Value) (l : List UInt8) (hs : a.eval s = v) (hown : ownBs w B v l) (ad : Addr) (m c : Nat) (news : List UInt8) (hx : a.eval x = .slice (some ad) m c) (hl : news.length = m)
    (hnews : ∀ j u, (news.map encB)[j]? = some u → w.cell? (ad.add j) = some u) (hroom : l.length + m ≤ 140737488355328) (hB : B ≤ w.heap.size)
    (h : ∀ v' w', ownBs w' B v' (l ++ news) → Below B w w' → wpList Tryz.prog ops Q rest (a.put o.dst v') w') : wpList Tryz.prog ops Q (o :: rest) a w := by
  obtain ⟨i0, hi, hz0, hz1, hz2⟩ := info_parts byteInfoB
  refine wpList_append_own w hgd s x _ ho B 5 i0 (.int .u8 0) 1 1 Tryz.underlying91 hi hz0 hz1 hz2 rfl (by decide) v l.length (l.map encB) hs hown ad m c (news.map encB) hx (by simp [hl]) hnews (encB_one _) (by unfold maxLen; omega) (by omega) hB ?_
  intro v' w' hown' hg _
  refine h v' w' ?_ (ownBs.grown hown hB hg)
  unfold ownBs
  rw [List.length_append, List.map_append, hl]
  exact hown'
theorem app_strB {w : World} {ops : Array Oper} {rest : List Oper} {o : Oper} {a : Act} {Q : Exit → Act → World → Prop} (hgd : o.guard = none) (s x : Operand)
    (ho : o.op = .call { callee := .builtin .append, args := #[s, x], argTypes := #[91, 9] })
    (B : Nat) (v : Value) (l : List UInt8) (hs : a.eval s = v) (hown : ownBs w B v l) (t : ByteArray) (hx : a.eval x = .string t) (hroom : l.length + t.size ≤ 140737488355328) (hB : B ≤ w.heap.size)
    (h : ∀ v' w', ownBs w' B v' (l ++ t.data.toList) → Below B w w' → wpList Tryz.prog ops Q rest (a.put o.dst v') w') : wpList Tryz.prog ops Q (o :: rest) a w := by
  obtain ⟨i0, hi, hz0, hz1, hz2⟩ := info_parts byteInfoB
  refine Lib.wpList_append_own_string w hgd s x _ _ ho B 5 i0 Tryz.underlying91 Tryz.underlying9 hi hz0 hz1 hz2 v l.length (l.map encB) hs hown t hx (by unfold maxLen; omega) (by omega) hB ?_
  intro v' w' hown' hg _
  refine h v' w' ?_ (ownBs.grown hown hB hg)
  unfold ownBs
  rw [List.length_append, List.map_append, Array.length_toList]
  exact hown'
theorem fold_pushB (l : List UInt8) : ∀ r : ByteArray, (l.map fun c => (c.toNat : Int)).foldl (fun r n => r.push (UInt8.ofNat n.toNat)) r = ⟨r.data ++ l.toArray⟩ := by
  induction l with
  | nil => intro r; simp
  | cons c l ih =>
    intro r
    rw [List.map_cons, List.foldl_cons, ih]
    simp [ByteArray.push]
theorem conv_ownB {w : World} {B : Nat} {v : Value} {l : List UInt8} (h : ownBs w B v l) : (convert 91 9 v).run Tryz.prog w = .ok (.string ⟨l.toArray⟩) w := by
  rcases h.2 with ⟨rfl, h0⟩ | ⟨g, cap, cur, rfl, hbg, hgg, hle, hmax, hsz, htk⟩
  · obtain rfl : l = [] := List.length_eq_zero_iff.1 h0
    exact Lib.run_convert_nil_bytes w _ _ _ _ Tryz.underlying91 Tryz.underlying5 Tryz.underlying9
  · rw [run_convert_bytes_string w _ _ _ _ _ _ Tryz.underlying91 Tryz.underlying5 Tryz.underlying9]
    have hc := World.ownsRow.cells h (g := g) rfl
    have hload := run_loadCells_list (P := Tryz.prog) w ⟨g, 0, none⟩ (l.map encB) hc
    rw [List.length_map] at hload
    have := run_bytesToString (P := Tryz.prog) w ⟨g, 0, none⟩ l.length cap (l.map fun c => (c.toNat : Int)) (by rw [hload]; congr 2; simp [encB])
    rw [this, fold_pushB]
    simp
theorem cells_newB (w : World) (news : List UInt8) (cs : Array Value) (T : TypeId) (hc : cs.toList = news.map encB) : ∀ j u, (news.map encB)[j]? = some u → (w.alloc (.cells cs T)).cell? ((⟨w.heap.size, 0, none⟩ : Addr).add j) = some u := by
  intro j u h
  have e : (⟨w.heap.size, 0, none⟩ : Addr).add j = ⟨w.heap.size, j, none⟩ := by simp [Addr.add]; exact fun h => h.symm
  rw [e, World.cell?_alloc_at _ _ _ _ rfl, ← Array.getElem?_toList, hc, h]
/-- a number's digits, the last one first -/
def digB : Nat → Nat → List UInt8
  | 0, _ => []
  | f + 1, K => if K = 0 then [] else UInt8.ofNat (48 + K % 10) :: digB f (K / 10)
theorem digB_len : ∀ f K, (digB f K).length ≤ f
  | 0, _ => Nat.le_refl _
  | f + 1, K => by
    rw [digB]
    split
    · simp
    · rw [List.length_cons]; have := digB_len f (K / 10); omega
theorem digB_zero : ∀ f, digB f 0 = []
  | 0 => rfl
  | f + 1 => by rw [digB, if_pos rfl]
def headS (con role : ByteArray) : ByteArray := con ++ ⟨#[32]⟩ ++ role ++ ⟨#[32]⟩
def lineB (nd : Nd) : List UInt8 := (headS nd.con nd.role).data.toList ++ digB nd.par.toNat nd.par.toNat ++ [10]
def sortedL (nds : List Nd) : List UInt8 := nds.flatMap lineB
def sortedV (nds : List Nd) : ByteArray := ⟨(sortedL nds).toArray⟩
/-- what is told of a node -/
structure ShortN (nd : Nd) : Prop where
  con : nd.con.size ≤ 33
  role : nd.role.size ≤ 33
  lo : 0 ≤ nd.par
  hi : nd.par ≤ 1048577
theorem headS_size (con role : ByteArray) : (headS con role).size = con.size + role.size + 2 := by
  unfold headS
  rw [ByteArray.size_append, ByteArray.size_append, ByteArray.size_append]
  show con.size + 1 + role.size + 1 = _
  omega
theorem lineB_len {nd : Nd} (h : ShortN nd) : (lineB nd).length ≤ 1048700 := by
  unfold lineB
  have h1 := digB_len nd.par.toNat nd.par.toNat
  have h2 := headS_size nd.con nd.role
  have h3 := h.con
  have h4 := h.role
  have h5 := h.hi
  rw [List.length_append, List.length_append, Array.length_toList]
  have : (headS nd.con nd.role).data.size = (headS nd.con nd.role).size := rfl
  simp only [List.length_singleton]
  omega
theorem sortedL_len : ∀ {nds : List Nd}, (∀ nd ∈ nds, ShortN nd) → (sortedL nds).length ≤ nds.length * 1048700
  | [], _ => Nat.zero_le _
  | x :: r, h => by
    unfold sortedL
    rw [List.flatMap_cons, List.length_append, List.length_cons]
    have h1 := lineB_len (h x (List.mem_cons_self ..))
    have h2 : (sortedL r).length ≤ r.length * 1048700 := sortedL_len fun nd hnd => h nd (List.mem_cons_of_mem _ hnd)
    unfold sortedL at h2
    omega
theorem sortedL_succ {nds : List Nd} {i : Nat} {nd : Nd} (h : nds[i]? = some nd) : sortedL (nds.take (i + 1)) = sortedL (nds.take i) ++ lineB nd := by
  unfold sortedL
  rw [List.take_add_one, h, List.flatMap_append]
  simp
/-- the box of sorted, and the bytes -/
structure SO (w : World) (next : Int) (A : Option Addr) (n c : Nat) (vb : Value) (l : List UInt8) (X : World) : Prop where
  m : Blk X w.heap.size 26 #[.int .i64 next, .slice A n c]
  own : ownBs X (w.heap.size + 1) vb l
  bel : Below w.heap.size w X
section
variable {w X X' : World} {next : Int} {A : Option Addr} {n c : Nat} {vb vb' : Value} {l l' : List UInt8}
theorem SO.after (h : SO w next A n c vb l X) (hb : Below X.heap.size X X') : SO w next A n c vb l X' := ⟨h.m.after hb, h.own.after hb, h.bel.trans (hb.mono h.bel.size)⟩
theorem SO.push (h : SO w next A n c vb l X) (hb : Below (w.heap.size + 1) X X') (ho : ownBs X' (w.heap.size + 1) vb' l') : SO w next A n c vb' l' X' := ⟨h.m.below hb (Nat.lt_succ_self _), ho, h.bel.trans (hb.mono (Nat.le_succ _))⟩
theorem SO.le (h : SO w next A n c vb l X) : w.heap.size + 1 ≤ X.heap.size := h.m.lt
end
set_option maxRecDepth 20000 in
set_option maxHeartbeats 800000 in
theorem sorted_any (w : World) (hi : Nat) (next : Int) (A : Option Addr) (n c : Nat) (nds : List Nd) (h : NodesIn w 0 hi A n c nds) (hh : hi ≤ w.heap.size) (hn : n ≤ 4096) (hs : ∀ nd ∈ nds, ShortN nd) :
    Calls Tryz.prog 23 #[.agg #[.int .i64 next, .slice A n c]] w (Ret w (.string (sortedV nds))) := by
  have hc := h.2.2.1
  have hnc := h.2.1
  unfold maxLen at hc
  have HLN := Lib.hid h.1
  have HS := Lib.hid hs
  have HO0 : Hid (SO w next A n c (.slice none 0 0) [] (w.alloc (.cells #[.int .i64 next, .slice A n c] 26))) := Lib.hid ⟨Blk.new _ _ _, ownBs.nil _ _, below_box _ _⟩
  have HAt : Hid (∀ i, i < n → ∃ b o nd, A = some ⟨b, o, none⟩ ∧ nds[i]? = some nd ∧ ∀ X, Below w.heap.size w X → X.cell? ⟨b, o + i * 7 + 1, none⟩ = some (.string nd.con) ∧ X.cell? ⟨b, o + i * 7 + 2, none⟩ = some (.int .i64 nd.par) ∧ X.cell? ⟨b, o + i * 7 + 3, none⟩ = some (.string nd.role)) := Lib.hid fun i hi' => by
    obtain ⟨b, o, nd, L, hA, _, hb, hx, hat, _⟩ := h.at_ hi'
    refine ⟨b, o, nd, hA, hx, fun X hX => ?_⟩
    have hb' : b < w.heap.size := Nat.lt_of_lt_of_le hb hh
    exact ⟨(hX.cell (p := ⟨b, _, none⟩) hb').trans hat.c1, (hX.cell (p := ⟨b, _, none⟩) hb').trans hat.c2, (hX.cell (p := ⟨b, _, none⟩) hb').trans hat.c3⟩
  clear h hs
  go_enter Tryz.func23, Tryz.ntmps23
  go_upto_region 1 with (fail)
  generalize w.alloc (.cells #[.int .i64 next, .slice A n c] 26) = X0 at HO0 ⊢
  go_wp2_with fail
  go_loopw [3, 4] (fun v3 v4 wr => ∃ i : Nat, i ≤ n ∧ v4 = .int .i64 i ∧ Hid (SO w next A n c v3 (sortedL (nds.take i)) wr)) (fun _ v _ => n - (intOf v).toNat)
  case atStart => exact ⟨0, Nat.zero_le _, rfl, HO0⟩
  case round =>
    clear HO0
    obtain ⟨i, hi', rfl, HX⟩ := hrel
    rename World => wr
    have m1 := (HX.out.m.cell 1).trans (show _ = some (.slice A n c) from rfl)
    by_cases hlt : i < n
    · obtain ⟨b, o, nd, hA, hx, hcl⟩ := HAt.out i hlt
      subst hA
      obtain ⟨s1, s2, s3, s4⟩ := HS.out nd (List.mem_of_getElem? hx)
      obtain ⟨P, hP⟩ : ∃ P : Nat, nd.par = (P : Int) := ⟨nd.par.toNat, by omega⟩
      have HP := Lib.hid hP
      have hP4 : P ≤ 1048577 := by omega
      have HSh := Lib.hid (HS.out nd (List.mem_of_getElem? hx))
      have HC := Lib.hid hcl
      obtain ⟨l, hl⟩ : ∃ l, sortedL (nds.take i) = l := ⟨_, rfl⟩
      have hll : l.length ≤ 4096 * 1048700 := by
        rw [← hl]
        have h1 := sortedL_len (nds := nds.take i) (fun z hz => HS.out z (List.mem_of_mem_take hz))
        have h2 : (nds.take i).length ≤ 4096 := by rw [List.length_take]; omega
        exact Nat.le_trans h1 (Nat.mul_le_mul_right _ h2)
      have HNx : Hid (sortedL (nds.take (i + 1)) = l ++ lineB nd) := Lib.hid (by rw [sortedL_succ hx, hl])
      rw [hl] at HX
      have HLL := Lib.hid hll
      clear hcl hx hl s3 s4 hP
      obtain ⟨k1, k2, k3⟩ := HC.out wr HX.out.bel
      go_upto_region 5 with (fail)
      clear m1 k1 k2 k3
      replace HX := Lib.hid (HX.out.after (below_drew1 _))
      have z1 : (nd.con ++ (⟨#[32]⟩ : ByteArray)).size = nd.con.size + 1 := by rw [ByteArray.size_append]; rfl
      have z2 : (nd.con ++ (⟨#[32]⟩ : ByteArray) ++ nd.role).size = nd.con.size + 1 + nd.role.size := by rw [ByteArray.size_append, z1]
      refine wp_region_held_tail 16 (fun w' => w'.cell? ⟨w.heap.size, 1, none⟩ = some (.slice (some ⟨b, o, none⟩) n c) ∧ w'.cell? ⟨b, o + i * 7 + 1, none⟩ = some (.string nd.con) ∧ w'.cell? ⟨b, o + i * 7 + 3, none⟩ = some (.string nd.role)) (by kernel_rfl) (by kernel_rfl) ?hSt (fun hHeld => ?qt0)
      case hSt => exact ⟨(HX.out.m.cell 1).trans rfl, (HC.out _ HX.out.bel).1, (HC.out _ HX.out.bel).2.2⟩
      case qt0 =>
        generalize wr.drew = wz at HX hHeld ⊢
        simp only [List.take_succ_cons, List.take_zero, List.drop_succ_cons, List.drop_zero]
        refine wpAnyH_take (i := 0) (v := u3) rfl (by kernel_rfl) (by kernel_rfl) (by kernel_rfl) (fun _ _ _ h => h) (Or.inl ⟨by rfl, ?yt_1⟩) (by assumption) ?qt_1
        case yt_1 => (intro w hSw; (try dsimp only at hSw); go_simp <;> omega)
        case qt_1 =>
          (try simp only [Act.put]); (try simp only [List.setIfInBounds_toArray])
          refine wpAnyH_take (i := 1) (v := (.pointer (some ⟨w.heap.size, 1, none⟩))) rfl (by kernel_rfl) (by kernel_rfl) (by kernel_rfl) (fun _ _ _ h => h) (Or.inl ⟨by rfl, ?yt_2⟩) (by assumption) ?qt_2
          case yt_2 => (intro w hSw; (try dsimp only at hSw); go_simp <;> omega)
          case qt_2 =>
            (try simp only [Act.put]); (try simp only [List.setIfInBounds_toArray])
            refine wpAnyH_take (i := 2) (v := (.slice (some ⟨b, o, none⟩) n c)) rfl (by kernel_rfl) (by kernel_rfl) (by kernel_rfl) (fun _ _ _ h => h) (Or.inl ⟨by rfl, ?yt_3⟩) (by assumption) ?qt_3
            case yt_3 => (intro w hSw; (try dsimp only at hSw); go_simp <;> omega)
            case qt_3 =>
              (try simp only [Act.put]); (try simp only [List.setIfInBounds_toArray])
              refine wpAnyH_take (i := 3) (v := (.int .i64 i)) rfl (by kernel_rfl) (by kernel_rfl) (by kernel_rfl) (fun _ _ _ h => h) (Or.inl ⟨by rfl, ?yt_4⟩) (by assumption) ?qt_4
              case yt_4 => (intro w hSw; (try dsimp only at hSw); go_simp <;> omega)
              case qt_4 =>
                (try simp only [Act.put]); (try simp only [List.setIfInBounds_toArray])
                refine wpAnyH_take (i := 4) (v := (.pointer (some ⟨b, o + i * 7, none⟩))) rfl (by kernel_rfl) (by kernel_rfl) (by kernel_rfl) (fun _ _ _ h => h) (Or.inl ⟨by rfl, ?yt_5⟩) (by assumption) ?qt_5
                case yt_5 => (intro w hSw; (try dsimp only at hSw); go_simp <;> omega)
                case qt_5 =>
                  (try simp only [Act.put]); (try simp only [List.setIfInBounds_toArray])
                  refine wpAnyH_take (i := 5) (v := (.pointer (some ⟨b, o + i * 7 + 1, none⟩))) rfl (by kernel_rfl) (by kernel_rfl) (by kernel_rfl) (fun _ _ _ h => h) (Or.inl ⟨by rfl, ?yt_6⟩) (by assumption) ?qt_6
                  case yt_6 => (intro w hSw; (try dsimp only at hSw); go_simp <;> omega)
                  case qt_6 =>
                    (try simp only [Act.put]); (try simp only [List.setIfInBounds_toArray])
                    refine wpAnyH_take (i := 6) (v := (.string nd.con)) rfl (by kernel_rfl) (by kernel_rfl) (by kernel_rfl) (fun _ _ _ h => h) (Or.inl ⟨by rfl, ?yt_7⟩) (by assumption) ?qt_7
                    case yt_7 => (intro w hSw; (try dsimp only at hSw); go_simp <;> omega)
                    case qt_7 =>
                      (try simp only [Act.put]); (try simp only [List.setIfInBounds_toArray])
                      refine wpAnyH_take (i := 7) (v := (.string (nd.con ++ ⟨#[32]⟩))) rfl (by kernel_rfl) (by kernel_rfl) (by kernel_rfl) (fun _ _ _ h => h) (Or.inl ⟨by rfl, ?yt_8⟩) (by assumption) ?qt_8
                      case yt_8 => (intro w hSw; (try dsimp only at hSw); go_simp <;> omega)
                      case qt_8 =>
                        (try simp only [Act.put]); (try simp only [List.setIfInBounds_toArray])
                        refine wpAnyH_take (i := 8) (v := (.pointer (some ⟨w.heap.size, 1, none⟩))) rfl (by kernel_rfl) (by kernel_rfl) (by kernel_rfl) (fun _ _ _ h => h) (Or.inl ⟨by rfl, ?yt_9⟩) (by assumption) ?qt_9
                        case yt_9 => (intro w hSw; (try dsimp only at hSw); go_simp <;> omega)
                        case qt_9 =>
                          (try simp only [Act.put]); (try simp only [List.setIfInBounds_toArray])
                          refine wpAnyH_take (i := 9) (v := (.slice (some ⟨b, o, none⟩) n c)) rfl (by kernel_rfl) (by kernel_rfl) (by kernel_rfl) (fun _ _ _ h => h) (Or.inl ⟨by rfl, ?yt_10⟩) (by assumption) ?qt_10
                          case yt_10 => (intro w hSw; (try dsimp only at hSw); go_simp <;> omega)
                          case qt_10 =>
                            (try simp only [Act.put]); (try simp only [List.setIfInBounds_toArray])
                            refine wpAnyH_take (i := 10) (v := (.int .i64 i)) rfl (by kernel_rfl) (by kernel_rfl) (by kernel_rfl) (fun _ _ _ h => h) (Or.inl ⟨by rfl, ?yt_11⟩) (by assumption) ?qt_11
                            case yt_11 => (intro w hSw; (try dsimp only at hSw); go_simp <;> omega)
                            case qt_11 =>
                              (try simp only [Act.put]); (try simp only [List.setIfInBounds_toArray])
                              refine wpAnyH_take (i := 11) (v := (.pointer (some ⟨b, o + i * 7, none⟩))) rfl (by kernel_rfl) (by kernel_rfl) (by kernel_rfl) (fun _ _ _ h => h) (Or.inl ⟨by rfl, ?yt_12⟩) (by assumption) ?qt_12
                              case yt_12 => (intro w hSw; (try dsimp only at hSw); go_simp <;> omega)
                              case qt_12 =>
                                (try simp only [Act.put]); (try simp only [List.setIfInBounds_toArray])
                                refine wpAnyH_take (i := 12) (v := (.pointer (some ⟨b, o + i * 7 + 3, none⟩))) rfl (by kernel_rfl) (by kernel_rfl) (by kernel_rfl) (fun _ _ _ h => h) (Or.inl ⟨by rfl, ?yt_13⟩) (by assumption) ?qt_13
                                case yt_13 => (intro w hSw; (try dsimp only at hSw); go_simp <;> omega)
                                case qt_13 =>
                                  (try simp only [Act.put]); (try simp only [List.setIfInBounds_toArray])
                                  refine wpAnyH_take (i := 13) (v := (.string nd.role)) rfl (by kernel_rfl) (by kernel_rfl) (by kernel_rfl) (fun _ _ _ h => h) (Or.inl ⟨by rfl, ?yt_14⟩) (by assumption) ?qt_14
                                  case yt_14 => (intro w hSw; (try dsimp only at hSw); go_simp <;> omega)
                                  case qt_14 =>
                                    (try simp only [Act.put]); (try simp only [List.setIfInBounds_toArray])
                                    refine wpAnyH_take (i := 14) (v := (.string (nd.con ++ ⟨#[32]⟩ ++ nd.role))) rfl (by kernel_rfl) (by kernel_rfl) (by kernel_rfl) (fun _ _ _ h => h) (Or.inl ⟨by rfl, ?yt_15⟩) (by assumption) ?qt_15
                                    case yt_15 => (intro w hSw; (try dsimp only at hSw); go_simp <;> omega)
                                    case qt_15 =>
                                      (try simp only [Act.put]); (try simp only [List.setIfInBounds_toArray])
                                      refine wpAnyH_take (i := 15) (v := (.string (nd.con ++ ⟨#[32]⟩ ++ nd.role ++ ⟨#[32]⟩))) rfl (by kernel_rfl) (by kernel_rfl) (by kernel_rfl) (fun _ _ _ h => h) (Or.inl ⟨by rfl, ?yt_16⟩) (by assumption) ?qt_16
                                      case yt_16 => (intro w hSw; (try dsimp only at hSw); go_simp <;> omega)
                                      case qt_16 =>
                                        (try simp only [Act.put]); (try simp only [List.setIfInBounds_toArray])
                                        refine wpAnyH_done (by kernel_rfl) ?_ _
                                        show wpList _ _ _ _ _ _
                                        clear hHeld
                                        go_upto_region 6 with (at_builtin; go_must (refine app_strB rfl _ _ rfl (w.heap.size + 1) u3 l (by go_simp) HX.out.own (nd.con ++ ⟨#[32]⟩ ++ nd.role ++ ⟨#[32]⟩) (by go_simp) (by have h1 := headS_size nd.con nd.role; have h2 := HLL.out; unfold headS at h1; omega) HX.out.le ?_); go_must (intro v5 w5 ho5 hb5; have HY := Lib.hid (HX.out.push hb5 ho5); clear ho5 hb5))
                                        obtain ⟨l1, hl1⟩ : ∃ l1, l ++ (nd.con ++ ⟨#[32]⟩ ++ nd.role ++ ⟨#[32]⟩ : ByteArray).data.toList = l1 := ⟨_, rfl⟩
                                        rw [hl1] at HY
                                        have HL1 : Hid (l1 = l ++ (headS nd.con nd.role).data.toList) := Lib.hid hl1.symm
                                        have hl1l : l1.length ≤ 4096 * 1048700 + 100 := by
                                          have h1 := headS_size nd.con nd.role
                                          have h2 := HLL.out
                                          have e := congrArg List.length HL1.out
                                          rw [List.length_append] at e
                                          have e2 : (headS nd.con nd.role).data.toList.length = (headS nd.con nd.role).size := by rw [Array.length_toList]; rfl
                                          rw [e2] at e
                                          have h5 := HSh.out.con
                                          have h6 := HSh.out.role
                                          omega
                                        have HL1l := Lib.hid hl1l
                                        clear hl1 hl1l z1 z2 HX
                                        have m2 := (HY.out.m.cell 1).trans (show _ = some (.slice (some ⟨b, o, none⟩) n c) from rfl)
                                        have k2 := (HC.out _ HY.out.bel).2.1
                                        rw [HP.out] at k2
                                        go_wp2_with fail
                                        clear m2 k2
                                        go_loopw [3, 5] (fun v3 v5 wx => ∃ (K f : Nat) (lk : List UInt8), K ≤ f ∧ K ≤ 1048577 ∧ v5 = .int .i64 K ∧ Hid (lk ++ digB f K = l1 ++ digB P P) ∧ Hid (SO w next (some ⟨b, o, none⟩) n c v3 lk wx)) (fun _ v _ => (intOf v).toNat)
                                        case atStart => exact ⟨P, P, l1, Nat.le_refl _, hP4, rfl, Lib.hid rfl, HY⟩
                                        case round =>
                                          clear HY
                                          obtain ⟨K, f, lk, hKf, hK4, rfl, HE, HZ⟩ := hrel
                                          rename World => wx
                                          have hlk : lk.length ≤ 4300000000 := by
                                            have h1 := congrArg List.length HE.out
                                            have h2 := HL1l.out
                                            have h3 := digB_len P P
                                            rw [List.length_append, List.length_append] at h1
                                            have h4 : (digB f K).length + lk.length = l1.length + (digB P P).length := by omega
                                            omega
                                          have HLK := Lib.hid hlk
                                          clear hlk
                                          by_cases hK : 0 < K
                                          · have hKi : (0 : Int) < (K : Int) := by omega
                                            go_upto_region 8 with (at_builtin; go_must (refine app_bytesB rfl _ _ rfl (w.heap.size + 1) u3 lk (by go_simp) (HZ.out.own.after (below_box _ _)) ⟨wx.heap.size, 0, none⟩ 1 1 [UInt8.ofNat (48 + K % 10)] (by go_simp) rfl (cells_newB _ _ _ _ (by simp [encB]; omega)) (by have := HLK.out; omega) (Nat.le_trans HZ.out.le (by simp)) ?_); go_must (intro v6 w6 ho6 hb6; have HY6 := Lib.hid ((HZ.out.after (below_box wx _)).push hb6 ho6); clear ho6 hb6))
                                            go_wp2_with fail
                                            obtain ⟨f', rfl⟩ : ∃ f', f = f' + 1 := ⟨f - 1, by omega⟩
                                            have HE2 : Hid ((lk ++ [UInt8.ofNat (48 + K % 10)]) ++ digB f' (K / 10) = l1 ++ digB P P) := Lib.hid (by
                                              rw [← HE.out, digB, if_neg (by omega), List.append_assoc]; rfl)
                                            go_roundw
                                            case rel => exact ⟨K / 10, f', _, by omega, by omega, by simp, HE2, HY6⟩
                                            case measure => simp only [intOf]; omega
                                          · obtain rfl : K = 0 := by omega
                                            have HE2 : Hid (lk ++ [10] = l ++ lineB nd) := Lib.hid (by
                                              have h1 := HE.out
                                              rw [digB_zero, List.append_nil] at h1
                                              rw [h1, HL1.out]
                                              unfold lineB
                                              rw [HP.out]
                                              simp)
                                            go_upto_region 4 with (at_builtin; go_must (refine app_bytesB rfl _ _ rfl (w.heap.size + 1) u3 lk (by go_simp) (HZ.out.own.after (below_box _ _)) ⟨wx.heap.size, 0, none⟩ 1 1 [10] (by go_simp) rfl (cells_newB _ _ _ _ (by simp [encB])) (by have := HLK.out; omega) (Nat.le_trans HZ.out.le (by simp)) ?_); go_must (intro v6 w6 ho6 hb6; have HY6 := Lib.hid ((HZ.out.after (below_box wx _)).push hb6 ho6); clear ho6 hb6))
                                            go_wp2_with fail
                                            go_roundw
                                            case rel => exact ⟨i + 1, by omega, by go_num, Lib.hid (by rw [HNx.out, ← HE2.out]; exact HY6.out)⟩
                                            case measure => simp only [intOf]; omega
    · obtain rfl : i = n := by omega
      have HSV : Hid (sortedL (nds.take i) = sortedL nds) := Lib.hid (by rw [List.take_of_length_le (by have := HLN.out; omega)])
      rw [HSV.out] at HX
      have hcv := conv_ownB HX.out.own
      go_wp2_with fail
      go_ret
      exact ret_mk rfl HX.out.bel
end Go.Proofs.YtohinklkcinjpaaGreat
namespace Go.Proofs.YtohinklkcinjpaaGreat
open Go Go.RowKit
set_option linter.unusedVariables false
theorem lessI_no {id : Int} {l : List Int} (h : id ∉ l) : lessI id l = l := by
  unfold lessI
  refine List.filter_eq_self.2 fun k hk => ?_
  rw [bne_iff_ne]
  rintro rfl
  exact h hk
theorem lessI_ins {id : Int} {l : List Int} {a : Nat} (h : id ∉ l) : lessI id (insAt l a id) = l := by
  have h1 := lessI_no (id := id) (l := l.take a) (fun hm => h (List.mem_of_mem_take hm))
  have h2 := lessI_no (id := id) (l := l.drop a) (fun hm => h (List.mem_of_mem_drop hm))
  unfold lessI at h1 h2 ⊢
  unfold insAt
  rw [List.filter_append, List.filter_cons_of_neg (by simp), h1, h2, List.take_append_drop]
/-- the part's first node alone, as if it hung there -/
def orpF (id parent : Int) (role : ByteArray) (y : Nd) : Nd := if y.id = id then { y with par := parent, role := role } else y
theorem orpF_id {id parent : Int} {role : ByteArray} {y : Nd} : (orpF id parent role y).id = y.id := by unfold orpF; split <;> rfl
theorem orpF_ne {id parent : Int} {role : ByteArray} {y : Nd} (h : y.id ≠ id) : orpF id parent role y = y := by unfold orpF; rw [if_neg h]
section
variable {next : Int} {nds t : List Nd} {id parent : Int} {S : Int → Bool} {d : Int → Nat} {hh : Nat} {role : ByteArray} {a : Nat}
theorem TX.take_put (h : TX next t id S d hh) (hne : parent ≠ id) : takeL (t.map (putF id parent role a)) id = t.map (orpF id parent role) := by
  obtain ⟨o, ho, hoi⟩ := h.orp
  have hf : ∀ y, (putF id parent role a y).id = y.id := fun y => putF_same.1
  have hp : parV (t.map (putF id parent role a)) id = parent := by
    unfold parV
    rw [ndOf_map hf, (ndOf_mem h.riseR).2 ⟨ho, hoi⟩]
    exact (putF_orp hoi).1
  unfold takeL
  rw [hp, List.map_map]
  refine List.map_congr_left fun y hy => ?_
  simp only [Function.comp_apply]
  unfold takeF orpF
  rw [putF_same.1]
  by_cases hyi : y.id = id
  · rw [if_neg (by rw [hyi]; exact Ne.symm hne), if_pos hyi]
    unfold putF
    rw [if_pos hyi]
  · rw [if_neg hyi]
    by_cases hyp : y.id = parent
    · rw [if_pos hyp, putF_at hyi hyp, lessI_ins (fun hm => (h.kid y hy id hm).1 rfl)]
      unfold putF
      rw [if_neg hyi, if_pos hyp]
    · rw [if_neg hyp]
      unfold putF
      rw [if_neg hyi, if_neg hyp]
theorem TX.part_put (h : TX next t id S d hh) (hT : TM next (t.map (putF id parent role a))) : ∀ y ∈ t, (preI (t.map (putF id parent role a)) id).contains y.id = S y.id := by
  intro y hy
  have hR := rightM hT.right
  obtain ⟨o, ho, hoi⟩ := h.orp
  have hf : ∀ y, (putF id parent role a y).id = y.id := fun y => putF_same.1
  have hx : ndOf (t.map (putF id parent role a)) id = some (putF id parent role a o) := by rw [ndOf_map hf, (ndOf_mem h.riseR).2 ⟨ho, hoi⟩]; rfl
  have := preI_is hR hx (S := S) h.s0 h.s1 (fun z hz hne => by
    obtain ⟨u, hu, rfl⟩ := List.mem_map.1 hz
    rw [hf] at hne ⊢
    rw [(putF_par hne).1]
    exact (h.dep u hu hne).2) 64 (putF id parent role a y) (List.mem_map_of_mem hy) (hR.step (List.mem_map_of_mem hy)).2
  rwa [hf] at this
/-- what was put and is removed again -/
theorem TX.remove_put (h : TX next t id S d hh) (hne : parent ≠ id) (hT : TM next (t.map (putF id parent role a))) :
    removeE next (t.map (putF id parent role a)) id = 0 ∧ removeL (t.map (putF id parent role a)) id = t.filter (fun y => !S y.id) := by
  obtain ⟨o, ho, hoi⟩ := h.orp
  have hf : ∀ y, (putF id parent role a y).id = y.id := fun y => putF_same.1
  have hx : ndOf (t.map (putF id parent role a)) id = some (putF id parent role a o) := by rw [ndOf_map hf, (ndOf_mem h.riseR).2 ⟨ho, hoi⟩]; rfl
  refine ⟨by unfold removeE; rw [hT.right, hx]; rfl, ?_⟩
  unfold removeL
  rw [h.take_put hne, List.filter_map]
  have hp := h.part_put hT
  have e : t.filter ((fun y => !(preI (t.map (putF id parent role a)) id).contains y.id) ∘ orpF id parent role) = t.filter (fun y => !S y.id) := by
    refine List.filter_congr fun y hy => ?_
    simp only [Function.comp_apply]
    rw [orpF_id, hp y hy]
  rw [e]
  conv => rhs; rw [← List.map_id (t.filter fun y => !S y.id)]
  refine List.map_congr_left fun y hy => ?_
  obtain ⟨_, hs⟩ := List.mem_filter.1 hy
  exact orpF_ne (fun e => by rw [e, h.s1] at hs; simp at hs)
/-- a node is added and removed -/
theorem TM.add_back (h : TM next nds) {parent : Int} {role con : ByteArray} {at_ : Int} (he : addE next nds parent role at_ con = 0) :
    removeE (next + 1) (addL next nds parent role con (admV next nds parent role at_ 1 1).1.toNat) next = 0 ∧ removeL (addL next nds parent role con (admV next nds parent role at_ 1 1).1.toNat) next = nds := by
  have hT := h.add he
  obtain ⟨hr, hc, hw, ha⟩ := addE_ok he
  obtain ⟨a1, a2, a3, a4, a5, a6⟩ := admV_ok (admV_pair ha)
  have hlo := h.lo
  have hpn : parent ≠ next := by
    intro e
    obtain ⟨x, hx⟩ := a1 (by omega)
    obtain ⟨hm, hi⟩ := (ndOf_mem h.riseR).1 hx
    have := (h.ids x hm).2
    omega
  rw [addL_put h a1] at hT ⊢
  obtain ⟨h1, h2⟩ := (h.addX hc a4 (by omega)).remove_put hpn hT
  refine ⟨h1, h2.trans ?_⟩
  rw [List.filter_append, List.filter_eq_self.2 (fun y hy => ?_), List.filter_cons_of_neg (by simp [newNd]), List.filter_nil, List.append_nil]
  have := (h.ids y hy).2
  rw [beq_eq_false_iff_ne.2 (by omega)]; rfl
/-- levels are told by what leads up -/
theorem dep_uniq (hR : RightM next t) {d : Int → Nat} (h0 : d 0 = 0) (hd : ∀ nd ∈ t, d nd.id = d nd.par + 1) : ∀ (f : Nat) (nd : Nd), nd ∈ t → depthV t nd.id ≤ f → depthV t nd.id = d nd.id
  | 0, nd, hnd, hf => by have := (hR.step hnd).1; omega
  | f + 1, nd, hnd, hf => by
    have h1 := (hR.step hnd).1
    rw [h1, hd nd hnd]
    by_cases hp : nd.par = 0
    · rw [hp, h0, depth_root.2]
    · obtain ⟨q, hq, _⟩ := in_kids hR ((ndOf_mem hR.rise).2 ⟨hnd, rfl⟩) hp
      obtain ⟨hqm, hqi⟩ := (ndOf_mem hR.rise).1 hq
      rw [← hqi] at h1 ⊢
      rw [dep_uniq hR h0 hd f q hqm (by omega)]
theorem moveE_codes (h : TM next nds) {nd : Nd} (hx : ndOf nds id = some nd) {at_ : Int} (hp : parent ≠ 0 → ∃ x, ndOf nds parent = some x) :
    moveE next nds id parent role at_ = 0 ∨ moveE next nds id parent role at_ = 21 ∨ moveE next nds id parent role at_ = 22 ∨ moveE next nds id parent role at_ = 23 ∨ moveE next nds id parent role at_ = 2 := by
  have hlen : (takeL nds id).length = nds.length := by unfold takeL; rw [List.length_map]
  have h1 := h.len
  have h2 := h.hi
  unfold moveE
  rw [h.right, hx, if_neg (by decide)]
  split
  · simp
  · rw [if_neg (by simp)]
    split
    · simp
    · unfold admV
      have hx' : ¬ (parent ≠ 0 ∧ (ndOf (takeL nds id) parent).isNone = true) := by
        rintro ⟨h0, hn⟩
        obtain ⟨x, hx⟩ := hp h0
        unfold takeL at hn
        rw [ndOf_map (takeF_id _ _), hx] at hn
        cases hn
      rw [if_neg hx']
      split
      · simp
      · split
        · simp
        · rw [if_neg (by rw [hlen]; omega), if_neg (by omega)]
          simp
end
theorem before_split {f : Int → Bool} {K : List Int} (hn : K.Nodup) {was : Nat} (hw : was ≤ (K.filter f).length) :
    ∃ a : Nat, beforeV f (was : Int) K = (a : Int) ∧ (K.take a).filter f = (K.filter f).take was ∧ (K.drop a).filter f = (K.filter f).drop was := by
  unfold beforeV
  rw [if_neg (by omega)]
  simp only [Int.toNat_natCast]
  cases hg : (K.filter f)[was]? with
  | some k =>
    simp only
    have hk : k ∈ K.filter f := List.mem_of_getElem? hg
    obtain ⟨hkK, hkf⟩ := List.mem_filter.1 hk
    obtain ⟨pre, post, rfl⟩ := List.append_of_mem hkK
    refine ⟨pre.length, idx_nodup hn, ?_⟩
    have e : (pre ++ k :: post).filter f = pre.filter f ++ k :: post.filter f := by rw [List.filter_append, List.filter_cons_of_pos hkf]
    have hnf : (pre.filter f ++ k :: post.filter f).Nodup := by rw [← e]; exact List.Sublist.nodup List.filter_sublist hn
    have hpl : (pre.filter f).length = was := by
      have h1 : (pre.filter f ++ k :: post.filter f)[(pre.filter f).length]? = some k := by rw [List.getElem?_append_right (Nat.le_refl _), Nat.sub_self]; rfl
      have e1 := idxV_nd hnf h1
      rw [e] at hg
      have e2 := idxV_nd hnf hg
      omega
    rw [e, List.take_left' rfl, List.drop_left' rfl, List.filter_cons_of_pos hkf, ← hpl, List.take_left' rfl, List.drop_left' rfl]
    exact ⟨rfl, rfl⟩
  | none =>
    have hwl : was = (K.filter f).length := by
      have := List.getElem?_eq_none_iff.1 hg
      omega
    simp only
    cases hl : (K.filter f).getLast? with
    | none =>
      have hF : K.filter f = [] := List.getLast?_eq_none_iff.1 hl
      refine ⟨K.length, rfl, ?_, ?_⟩
      · rw [List.take_of_length_le (Nat.le_refl _), hF]; simp
      · rw [List.drop_of_length_le (Nat.le_refl _), hF]; simp
    | some k =>
      simp only
      obtain ⟨ys, hys⟩ := List.getLast?_eq_some_iff.1 hl
      have hk : k ∈ K.filter f := by rw [hys]; simp
      obtain ⟨hkK, hkf⟩ := List.mem_filter.1 hk
      obtain ⟨pre, post, rfl⟩ := List.append_of_mem hkK
      have e : (pre ++ k :: post).filter f = pre.filter f ++ k :: post.filter f := by rw [List.filter_append, List.filter_cons_of_pos hkf]
      have hnf : (pre.filter f ++ k :: post.filter f).Nodup := by rw [← e]; exact List.Sublist.nodup List.filter_sublist hn
      have hpost : post.filter f = [] := by
        have h1 : (pre.filter f ++ k :: post.filter f)[(pre.filter f).length]? = some k := by rw [List.getElem?_append_right (Nat.le_refl _), Nat.sub_self]; rfl
        have e1 := idxV_nd hnf h1
        have h2 : (pre.filter f ++ k :: post.filter f)[ys.length]? = some k := by rw [← e, hys, List.getElem?_append_right (Nat.le_refl _), Nat.sub_self]; rfl
        have e2 := idxV_nd hnf h2
        have h3 := congrArg List.length (e.symm.trans hys)
        simp only [List.length_append, List.length_cons, List.length_nil] at h3
        exact List.length_eq_zero_iff.1 (by omega)
      refine ⟨pre.length + 1, by rw [idx_nodup hn]; omega, ?_, ?_⟩
      · rw [hwl, List.take_of_length_le (Nat.le_refl _), e, hpost, show pre ++ k :: post = (pre ++ [k]) ++ post from by simp, List.take_left' (by simp), List.filter_append, List.filter_cons_of_pos hkf]; rfl
      · rw [hwl, List.drop_of_length_le (Nat.le_refl _), show pre ++ k :: post = (pre ++ [k]) ++ post from by simp, List.drop_left' (by simp), hpost]
theorem ins_filter {f g : Int → Bool} {K : List Int} {a : Nat} {id : Int} (hg : g id = true) (hfg : ∀ k ∈ K, g k = f k) : (insAt K a id).filter g = (K.take a).filter f ++ id :: (K.drop a).filter f := by
  unfold insAt
  rw [List.filter_append, List.filter_cons_of_pos hg, List.filter_congr fun k hk => hfg k (List.mem_of_mem_take hk), List.filter_congr (l := K.drop a) fun k hk => hfg k (List.mem_of_mem_drop hk)]
theorem back_list {l : List Int} (hn : l.Nodup) {was : Nat} {id : Int} (hw : l[was]? = some id) : (lessI id l).take was ++ id :: (lessI id l).drop was = l ∧ was ≤ (lessI id l).length := by
  obtain ⟨hl, hx⟩ := List.getElem?_eq_some_iff.1 hw
  have e : l = l.take was ++ id :: l.drop (was + 1) := by rw [← hx, ← List.drop_eq_getElem_cons hl, List.take_append_drop]
  have hlt : (l.take was).length = was := by rw [List.length_take]; omega
  obtain ⟨pre, hpre⟩ : ∃ pre, l.take was = pre := ⟨_, rfl⟩
  obtain ⟨post, hpost⟩ : ∃ post, l.drop (was + 1) = post := ⟨_, rfl⟩
  rw [hpre, hpost] at e
  rw [hpre] at hlt
  rw [e] at hn
  obtain ⟨n1, n2, n3⟩ := List.nodup_append.1 hn
  have hi1 : id ∉ pre := fun hm => n3 id hm id (List.mem_cons_self ..) rfl
  have hi2 : id ∉ post := (List.nodup_cons.1 n2).1
  have el : lessI id l = pre ++ post := by
    rw [e]
    have h1 := lessI_no hi1
    have h2 := lessI_no hi2
    unfold lessI at h1 h2 ⊢
    rw [List.filter_append, List.filter_cons_of_neg (by simp), h1, h2]
  rw [el, List.take_left' hlt, List.drop_left' hlt]
  refine ⟨e.symm, ?_⟩
  rw [List.length_append]; omega
end Go.Proofs.YtohinklkcinjpaaGreat
namespace Go.Proofs.YtohinklkcinjpaaGreat
open Go Go.RowKit
set_option linter.unusedVariables false
theorem sortedL_map {F : Nd → Nd} : ∀ {nds : List Nd}, (∀ y ∈ nds, lineB (F y) = lineB y) → sortedL (nds.map F) = sortedL nds
  | [], _ => rfl
  | x :: r, h => by
    have ih := sortedL_map (F := F) (nds := r) fun y hy => h y (List.mem_cons_of_mem _ hy)
    unfold sortedL at ih ⊢
    rw [List.map_cons, List.flatMap_cons, List.flatMap_cons, h x (List.mem_cons_self ..), ih]
section
variable {next : Int} {nds : List Nd} {id tgt : Int} {role : ByteArray} {at_ : Int} {nd : Nd}
/-- what is known of a model from which a node was moved -/
structure BackS (next : Int) (nds z : List Nd) (id : Int) (nd : Nd) (tgt : Int) (role : ByteArray) : Prop where
  tm : TM next z
  tk : takeL z id = (takeL nds id).map (orpF id tgt role)
  nid : ∃ x, ndOf z id = some x
  off : (preI z id).contains nd.par = false
  hi : depthV z nd.par + hiV z id ≤ 64
theorem TM.moved (hT : TM next nds) (hx : ndOf nds id = some nd) (he : moveE next nds id tgt role at_ = 0) : BackS next nds (moveL next nds id tgt role at_) id nd tgt role := by
  have hR := rightM hT.right
  obtain ⟨hr, hw, _, hl, ha⟩ := moveE_ok he
  have tx := hR.takeX hT hx
  have hz := hT.move he
  have ez := moveL_put hT he
  obtain ⟨a, hae⟩ : ∃ a, (admV next (takeL nds id) tgt role at_ (hiV nds id) 0).1.toNat = a := ⟨_, rfl⟩
  rw [hae] at ez
  rw [ez] at hz ⊢
  have hto : tgt ≠ id := not_self hl
  obtain ⟨hm, hid⟩ := (ndOf_mem hR.rise).1 hx
  have hRz := rightM hz.right
  have hf : ∀ y, (putF id tgt role a y).id = y.id := fun y => putF_same.1
  have hxz : ndOf ((takeL nds id).map (putF id tgt role a)) id = some (putF id tgt role a (takeF (parV nds id) id nd)) := by
    rw [ndOf_map hf]
    unfold takeL
    rw [ndOf_map (takeF_id _ _), hx]; rfl
  have hst := hR.step hm
  have hSp : (preI nds id).contains nd.par = false := by
    cases hc : (preI nds id).contains nd.par with
    | false => rfl
    | true =>
      have := preI_up hR hx (List.contains_iff_mem.1 hc)
      rw [hid] at hst
      omega
  have hmemz : ∀ y' ∈ (takeL nds id).map (putF id tgt role a), ∃ u ∈ nds, y' = putF id tgt role a (takeF (parV nds id) id u) ∧ y'.id = u.id ∧ takeF (parV nds id) id u ∈ takeL nds id := fun y' hy' => by
    obtain ⟨u', hu', rfl⟩ := List.mem_map.1 hy'
    obtain ⟨u, hu, rfl⟩ := List.mem_map.1 hu'
    exact ⟨u, hu, rfl, by rw [hf, takeF_id], List.mem_map_of_mem hu⟩
  have hoff : (preI ((takeL nds id).map (putF id tgt role a)) id).contains nd.par = false := by
    cases hc : (preI ((takeL nds id).map (putF id tgt role a)) id).contains nd.par with
    | false => rfl
    | true =>
      obtain ⟨q', hq'⟩ := preI_mem hRz hxz (List.contains_iff_mem.1 hc)
      obtain ⟨hqm, hqi⟩ := (ndOf_mem hRz.rise).1 hq'
      obtain ⟨u, hu, _, hui, hut⟩ := hmemz q' hqm
      have := tx.part_put hz _ hut
      rw [takeF_id, ← hui, hqi, hc, hSp] at this
      cases this
  have hdep : ∀ u ∈ nds, depthV ((takeL nds id).map (putF id tgt role a)) u.id = if (preI nds id).contains u.id = true then depthV nds u.id - depthV nds id + 1 + depthV nds tgt else depthV nds u.id := by
    intro u hu
    have key := dep_uniq hRz (d := fun x => if (preI nds id).contains x = true then depthV nds x - depthV nds id + 1 + depthV nds tgt else depthV nds x) (by
      show (if (preI nds id).contains 0 = true then _ else _) = 0
      have h0 := tx.s0
      try simp only at h0
      rw [h0, if_neg (by decide)]
      exact depth_root.2) (fun y' hy' => by
      obtain ⟨v, hv, rfl, hvi, hvt⟩ := hmemz y' hy'
      show (if (preI nds id).contains _ = true then _ else _) = (if (preI nds id).contains _ = true then _ else _) + 1
      rw [hvi]
      by_cases hvid : v.id = id
      · have h1 := tx.s1
        try simp only at h1
        rw [(putF_orp (by rw [takeF_id]; exact hvid)).1, hvid, hl, h1]
        simp only [if_true, Bool.false_eq_true, if_false]
        omega
      · rw [(putF_par (by rw [takeF_id]; exact hvid)).1, takeF_par]
        obtain ⟨e1, e2⟩ := tx.dep _ hvt (by rw [takeF_id]; exact hvid)
        try simp only at e1 e2
        rw [takeF_id, takeF_par] at e1 e2
        rw [e2] at e1 ⊢
        cases hc : (preI nds id).contains v.par with
        | true =>
          rw [hc] at e1
          simp only [if_true] at e1 ⊢
          omega
        | false =>
          rw [hc] at e1
          simp only [Bool.false_eq_true, if_false] at e1 ⊢
          exact e1) 64 (putF id tgt role a (takeF (parV nds id) id u)) (List.mem_map_of_mem (List.mem_map_of_mem hu)) (hRz.step (List.mem_map_of_mem (List.mem_map_of_mem hu))).2
    rwa [hf, takeF_id] at key
  have hdp : depthV ((takeL nds id).map (putF id tgt role a)) nd.par = depthV nds nd.par := by
    by_cases h0 : nd.par = 0
    · rw [h0, depth_root.2, depth_root.2]
    · obtain ⟨q, hq, _⟩ := in_kids hR hx h0
      obtain ⟨hqm, hqi⟩ := (ndOf_mem hR.rise).1 hq
      have := hdep q hqm
      rwa [hqi, hSp, if_neg (by decide)] at this
  have hdid : depthV ((takeL nds id).map (putF id tgt role a)) id = 1 + depthV nds tgt := by
    have := hdep nd hm
    rw [hid] at this
    have h1 := tx.s1
    try simp only at h1
    rw [h1, if_pos rfl] at this
    omega
  have hhi : hiV ((takeL nds id).map (putF id tgt role a)) id ≤ 64 - depthV nds nd.par := by
    unfold hiV
    refine fold_le _ _ _ _ (Nat.zero_le _) fun y hy => ?_
    obtain ⟨y', hy'⟩ := preI_mem hRz hxz hy
    obtain ⟨hym, hyi⟩ := (ndOf_mem hRz.rise).1 hy'
    obtain ⟨u, hu, _, hui, hut⟩ := hmemz y' hym
    have hyu : y = u.id := by rw [← hyi, hui]
    have hS := tx.part_put hz _ hut
    rw [takeF_id, ← hyu, List.contains_iff_mem.2 hy] at hS
    try simp only at hS
    have h1 := hdep u hu
    rw [← hyu, ← hS, if_pos rfl] at h1
    have h2 := (hR.step hu).2
    rw [← hyu] at h2
    have h3 := preI_up hR hx (List.contains_iff_mem.1 hS.symm)
    rw [hid] at hst
    rw [h1, hdid]
    omega
  refine ⟨hz, tx.take_put hto, ⟨_, hxz⟩, hoff, ?_⟩
  rw [hdp]
  have := hst.2
  rw [hid] at this hst
  omega
/-- back tgt where it hung: the place is one -/
theorem BackS.ok (hT : TM next nds) (hx : ndOf nds id = some nd) {z : List Nd} (B : BackS next nds z id nd tgt role) {at' : Int} (ham : (amV (takeL z id) nd.par nd.role at').2 = true) :
    moveE next z id nd.par nd.role at' = 0 ∧ sortedV (moveL next z id nd.par nd.role at') = sortedV nds := by
  have hR := rightM hT.right
  obtain ⟨hm, hid⟩ := (ndOf_mem hR.rise).1 hx
  have hlen : (takeL z id).length = nds.length := by rw [B.tk, List.length_map]; unfold takeL; rw [List.length_map]
  have h1 := hT.len
  have h2 := hT.hi
  obtain ⟨x, hxz⟩ := B.nid
  have hnm : (nd.par == 0 || wordB nd.role) = true := by
    rcases hT.par nd hm with ⟨h0, _⟩ | ⟨_, hw, _⟩
    · rw [h0]; rfl
    · rw [hw, Bool.or_true]
  have hex : ¬ (nd.par ≠ 0 ∧ (ndOf (takeL z id) nd.par).isNone = true) := by
    rintro ⟨h0, hn⟩
    obtain ⟨q, hq, _⟩ := in_kids hR hx h0
    rw [B.tk, ndOf_map (fun y => orpF_id)] at hn
    unfold takeL at hn
    rw [ndOf_map (takeF_id _ _), hq] at hn
    cases hn
  have hE : moveE next z id nd.par nd.role at' = 0 := by
    unfold moveE
    rw [B.tm.right, if_neg (by decide), hnm, if_neg (by decide), hxz, if_neg (by simp), B.off, if_neg (by decide)]
    unfold admV
    rw [if_neg hex, ham, if_neg (by decide), takeL_depth, if_neg (by have := B.hi; omega), if_neg (by rw [hlen]; omega), if_neg (by omega)]
  refine ⟨hE, ?_⟩
  obtain ⟨a2, ha2⟩ : ∃ a2, (admV next (takeL z id) nd.par nd.role at' (hiV z id) 0).1.toNat = a2 := ⟨_, rfl⟩
  rw [moveL_put B.tm hE, ha2, B.tk]
  unfold sortedV takeL
  rw [List.map_map, List.map_map, sortedL_map]
  intro y hy
  simp only [Function.comp_apply]
  have key : ∀ u : Nd, u.con = y.con → u.role = y.role → u.par = y.par → lineB u = lineB y := fun u e1 e2 e3 => by unfold lineB; rw [e1, e2, e3]
  have t1 : (takeF (parV nds id) id y).con = y.con ∧ (takeF (parV nds id) id y).role = y.role := by unfold takeF; split <;> exact ⟨rfl, rfl⟩
  by_cases hyi : y.id = id
  · have hye : y = nd := nd_uniq hR.rise hy hm (by rw [hyi, hid])
    have o1 : (orpF id tgt role (takeF (parV nds id) id y)).id = id := by rw [orpF_id, takeF_id]; exact hyi
    have o2 : (orpF id tgt role (takeF (parV nds id) id y)).con = y.con := by unfold orpF; split <;> exact t1.1
    obtain ⟨p1, p2, _⟩ := putF_orp (parent := nd.par) (role := nd.role) (a := a2) o1
    exact key _ ((putF_same.2.1).trans o2) (p2.trans (by rw [hye])) (p1.trans (by rw [hye]))
  · have o1 : orpF id tgt role (takeF (parV nds id) id y) = takeF (parV nds id) id y := orpF_ne (by rw [takeF_id]; exact hyi)
    rw [o1]
    obtain ⟨p1, p2⟩ := putF_par (id := id) (parent := nd.par) (role := nd.role) (a := a2) (y := takeF (parV nds id) id y) (by rw [takeF_id]; exact hyi)
    exact key _ ((putF_same.2.1).trans t1.1) (p2.trans t1.2) (p1.trans (takeF_par _ _ _))
end
end Go.Proofs.YtohinklkcinjpaaGreat
namespace Go.Proofs.YtohinklkcinjpaaGreat
open Go Go.RowKit
set_option linter.unusedVariables false
section
variable {next : Int} {nds z : List Nd} {id tgt : Int} {role : ByteArray} {nd : Nd}
theorem BackS.root (hT : TM next nds) (hx : ndOf nds id = some nd) (B : BackS next nds z id nd tgt role) (h0 : nd.par = 0) :
    moveE next z id 0 ⟨#[]⟩ 0 = 0 ∧ sortedV (moveL next z id 0 ⟨#[]⟩ 0) = sortedV nds := by
  obtain ⟨hm, hid⟩ := (ndOf_mem hT.riseR).1 hx
  have hr : nd.role = ⟨#[]⟩ := by
    rcases hT.par nd hm with ⟨_, h1⟩ | ⟨h1, _⟩
    · exact str_eq.1 (h1.trans (by rw [toList_data]))
    · exact absurd h0 h1
  have := B.ok hT hx (at' := 0) (by rw [h0, hr]; unfold amV; rw [if_pos rfl, toList_data]; rfl)
  rw [h0, hr] at this
  exact this
theorem kidsR_of (hT : TM next nds) {p : Int} {q : Nd} (hq : ndOf nds p = some q) (rl : ByteArray) : kidsR next nds p rl = q.kids.filter (inRoleB nds rl) := by
  obtain ⟨i, hi, _⟩ := ndOf_some hq
  unfold kidsR
  rw [hT.right, hi, kidsV_of hq]
  rfl
theorem kidsR_none {p : Int} (hT : TM next nds) (h0 : p = 0) (rl : ByteArray) : kidsR next nds p rl = [] := by
  have : ixOf nds p = none := ixOf_no fun i x hx => by
    have := (hT.ids x (List.mem_of_getElem? hx)).1
    omega
  unfold kidsR
  rw [this]
  simp
/-- a node stands among its parent's kids of its role, once -/
theorem among_kids (hT : TM next nds) (hx : ndOf nds id = some nd) (h0 : nd.par ≠ 0) : id ∈ kidsR next nds nd.par nd.role ∧ (kidsR next nds nd.par nd.role).Nodup := by
  have hR := rightM hT.right
  obtain ⟨q, hq, hk⟩ := in_kids hR hx h0
  rw [kidsR_of hT hq]
  obtain ⟨hqm, hqi⟩ := (ndOf_mem hR.rise).1 hq
  refine ⟨List.mem_filter.2 ⟨hk, ?_⟩, List.Sublist.nodup List.filter_sublist (hT.nod q hqm)⟩
  unfold inRoleB
  rw [hx]
  simp
theorem BackS.kids (hT : TM next nds) (hx : ndOf nds id = some nd) (B : BackS next nds z id nd tgt role) (h0 : nd.par ≠ 0) {was : Nat} (hw : (kidsR next nds nd.par nd.role)[was]? = some id) :
    moveE next z id nd.par nd.role was = 0 ∧ sortedV (moveL next z id nd.par nd.role was) = sortedV nds ∧ kidsR next (moveL next z id nd.par nd.role was) nd.par nd.role = kidsR next nds nd.par nd.role := by
  have hR := rightM hT.right
  obtain ⟨hm, hid⟩ := (ndOf_mem hR.rise).1 hx
  obtain ⟨q, hq, hk⟩ := in_kids hR hx h0
  obtain ⟨hqm, hqi⟩ := (ndOf_mem hR.rise).1 hq
  have hpid : nd.par ≠ id := by
    intro e
    have := (hR.step hm).1
    rw [hid, e] at this
    omega
  have hpv : parV nds id = nd.par := by unfold parV; rw [hx]
  have hln := (among_kids hT hx h0).2
  obtain ⟨b1, b2⟩ := back_list hln hw
  have hq2 : ndOf (takeL z id) nd.par = some { q with kids := lessI id q.kids } := by
    rw [B.tk, ndOf_map (fun y => orpF_id)]
    unfold takeL
    rw [ndOf_map (takeF_id _ _), hq]
    have e1 : takeF (parV nds id) id q = { q with kids := lessI id q.kids } := by unfold takeF; rw [if_pos (by rw [hqi, hpv])]
    have e2 : orpF id tgt role { q with kids := lessI id q.kids } = { q with kids := lessI id q.kids } := orpF_ne (by show q.id ≠ id; rw [hqi]; exact hpid)
    simp only [Option.map_some, e1, e2]
  have hf : ∀ k, k ≠ id → inRoleB (takeL z id) nd.role k = inRoleB nds nd.role k := fun k hk => by
    unfold inRoleB
    rw [B.tk, ndOf_map (fun y => orpF_id)]
    unfold takeL
    rw [ndOf_map (takeF_id _ _)]
    cases hy : ndOf nds k with
    | none => rfl
    | some y =>
      obtain ⟨_, hyi⟩ := (ndOf_mem hR.rise).1 hy
      have e2 : orpF id tgt role (takeF (parV nds id) id y) = takeF (parV nds id) id y := orpF_ne (by rw [takeF_id, hyi]; exact hk)
      have e3 : (takeF (parV nds id) id y).role = y.role := by unfold takeF; split <;> rfl
      simp only [Option.map_some, e2, e3]
  have hKn : (lessI id q.kids).Nodup := List.Sublist.nodup List.filter_sublist (hT.nod q hqm)
  have hKid : ∀ k ∈ lessI id q.kids, k ≠ id := fun k hk => by
    have := (List.mem_filter.1 hk).2
    exact bne_iff_ne.1 this
  have hKf : (lessI id q.kids).filter (inRoleB (takeL z id) nd.role) = lessI id (kidsR next nds nd.par nd.role) := by
    rw [List.filter_congr (fun k hk => hf k (hKid k hk)), kidsR_of hT hq]
    unfold lessI
    rw [List.filter_filter, List.filter_filter]
    refine List.filter_congr fun k _ => ?_
    rw [Bool.and_comm]
  obtain ⟨a, ha, s1, s2⟩ := before_split (f := inRoleB (takeL z id) nd.role) hKn (was := was) (by rw [hKf]; exact b2)
  obtain ⟨m1, m2⟩ := among_before (f := inRoleB (takeL z id) nd.role) (at_ := (was : Int)) hKn
  have hne : beforeV (inRoleB (takeL z id) nd.role) (was : Int) (lessI id q.kids) ≠ -1 := by rw [ha]; omega
  rw [decide_eq_true hne] at m1
  have hav : amV (takeL z id) nd.par nd.role (was : Int) = amongF (inRoleB (takeL z id) nd.role) (was : Int) 0 (lessI id q.kids).length 0 (lessI id q.kids) := by
    unfold amV
    rw [if_neg h0, hq2]
  have ham : (amV (takeL z id) nd.par nd.role (was : Int)).2 = true := by rw [hav]; exact m1
  obtain ⟨hE, hS⟩ := B.ok hT hx ham
  refine ⟨hE, hS, ?_⟩
  have hTb := B.tm.move hE
  obtain ⟨_, _, _, _, had⟩ := moveE_ok hE
  obtain ⟨_, _, _, _, _, a6⟩ := admV_ok (admV_pair had)
  have ha2 : (admV next (takeL z id) nd.par nd.role (was : Int) (hiV z id) 0).1.toNat = a := by
    rw [← a6, hav, m2 m1, ha]; omega
  rw [moveL_put B.tm hE, ha2] at hTb ⊢
  have hqb : ndOf ((takeL z id).map (putF id nd.par nd.role a)) nd.par = some (putF id nd.par nd.role a { q with kids := lessI id q.kids }) := by
    rw [ndOf_map (fun y => putF_same.1), hq2]; rfl
  rw [kidsR_of hTb hqb, putF_at (by show q.id ≠ id; rw [hqi]; exact hpid) (by show q.id = nd.par; exact hqi)]
  rw [ins_filter (f := inRoleB (takeL z id) nd.role), s1, s2, hKf]
  · exact b1
  · unfold inRoleB
    obtain ⟨x, hxz⟩ := B.nid
    have : ∃ y, ndOf (takeL z id) id = some y := by
      unfold takeL
      rw [ndOf_map (takeF_id _ _), hxz]
      exact ⟨_, rfl⟩
    obtain ⟨y, hy⟩ := this
    rw [ndOf_map (fun y => putF_same.1), hy]
    have hyi : y.id = id := by
      obtain ⟨_, _, _, e⟩ := ndOf_some hy
      exact e
    simp only [Option.map_some]
    rw [(putF_orp hyi).2.1]
    simp
  · intro k hk
    unfold inRoleB
    rw [ndOf_map (fun y => putF_same.1)]
    cases hy : ndOf (takeL z id) k with
    | none => rfl
    | some y =>
      have hyi : y.id = k := by
        obtain ⟨_, _, _, e⟩ := ndOf_some hy
        exact e
      simp only [Option.map_some]
      rw [(putF_par (by rw [hyi]; exact hKid k hk)).2]
end
end Go.Proofs.YtohinklkcinjpaaGreat
namespace Go.Proofs.YtohinklkcinjpaaGreat
open Go Go.RowKit Go.Sort
set_option linter.unusedVariables false
attribute [local go_sem ↓] Go.wp_at_zero Go.wp_at_succ
theorem list_at {X : World} {B c : Nat} {A : Option Addr} {L : List Int} {k : Nat} {y : Int} (h : X.ownsRow B 3 1 (.slice A L.length c) L.length (intCells L)) (hk : L[k]? = some y) :
    ∃ g, A = some ⟨g, 0, none⟩ ∧ L.length ≤ c ∧ c ≤ maxLen ∧ ∀ Y : World, Y.ownsRow B 3 1 (.slice (some ⟨g, 0, none⟩) L.length c) L.length (intCells L) → Y.cell? ⟨g, k, none⟩ = some (.int .i64 y) := by
  have hr := own_row h
  have hkl := (List.getElem?_eq_some_iff.1 hk).1
  rcases h.2 with ⟨hv, h0⟩ | ⟨g, cap, cur, hv, _⟩
  · omega
  · injection hv with hA _ _
    refine ⟨g, hA, hr.2.1, hr.2.2.1, fun Y hY => ?_⟩
    have := World.ownsRow.cellAt hY (k * 1) (by omega)
    rw [Nat.mul_one] at this
    rw [this]
    exact intCells_get hk
/-- what lies in memory while document order is gone through -/
structure RI (w : World) (gm N : Nat) (ql : List Nd) (A5 : Option Addr) (n5 c5 : Nat) (l5 : List (Nd × Leaf)) (AL : Option Addr) (cL : Nat) (L : List Int) (gb : Nat) (ids : List Int) (X : World) : Prop where
  bm : BM w gm (N : Int) ql A5 n5 c5 l5 X
  lr : X.ownsRow w.heap.size 3 1 (.slice AL L.length cL) L.length (intCells L)
  mrk : BBlk X gb (marksV N ids)
  le : w.heap.size ≤ gb
section
variable {w X X' : World} {gm N : Nat} {ql : List Nd} {A5 AL : Option Addr} {n5 c5 cL gb : Nat} {l5 : List (Nd × Leaf)} {L ids : List Int}
theorem RI.after (h : RI w gm N ql A5 n5 c5 l5 AL cL L gb ids X) (hb : Below X.heap.size X X') : RI w gm N ql A5 n5 c5 l5 AL cL L gb ids X' := ⟨h.bm.after hb, own_after h.lr hb, Blk.after h.mrk hb, h.le⟩
theorem RI.mark (h : RI w gm N ql A5 n5 c5 l5 AL cL L gb ids X) {y : Nat} (hy : y < N) : RI w gm N ql A5 n5 c5 l5 AL cL L gb (ids ++ [(y : Int)]) (X.setCell ⟨gb, y, none⟩ (.bool true)) := by
  have hm : Blk X gb 4 ((marksV N ids).map Value.bool).toArray := h.mrk
  refine ⟨⟨h.bm.m.far (p := ⟨gb, y, none⟩) (h.bm.m.ne_ hm (by decide)) _, ?_, h.bm.len, h.bm.map_, h.bm.bel.setCell (p := ⟨gb, y, none⟩) h.le _, h.bm.le⟩, own_other h.lr hm (by decide) _ _, by rw [← marksV_set hy]; exact h.mrk.set_ y true, h.le⟩
  exact ⟨own_other h.bm.own.own hm (by decide) _ _, fun p hp => (h.bm.own.leaf p hp).other hm (by decide) (by decide) (by decide) _ _⟩
end
section
variable {w X : World} {gm N : Nat} {ql : List Nd} {A5 AL : Option Addr} {n5 c5 cL gb : Nat} {l5 : List (Nd × Leaf)} {L ids : List Int}
/-- a box of a node is laid anew: what is in the way of the first store of it -/
theorem RI.box (h : RI w gm N ql A5 n5 c5 l5 AL cL L gb ids X) {g : Nat} {cs : Array Value} (hg : Blk X g 41 cs) (hle : w.heap.size ≤ g) (hno : ∀ g', A5 = some ⟨g', 0, none⟩ → g' ≠ g) (i : Nat) (u : Value) : RI w gm N ql A5 n5 c5 l5 AL cL L gb ids (X.setCell ⟨g, i, none⟩ u) := by
  refine ⟨⟨h.bm.m.far (p := ⟨g, i, none⟩) (h.bm.m.ne_ hg (by decide)) u, ?_, h.bm.len, h.bm.map_, h.bm.bel.setCell (p := ⟨g, i, none⟩) hle u, h.bm.le⟩, own_other h.lr hg (by decide) i u, Blk.far h.mrk (p := ⟨g, i, none⟩) (Blk.ne_ h.mrk hg (by decide)) u, h.le⟩
  refine ⟨?_, fun p hp => (h.bm.own.leaf p hp).other hg (by decide) (by decide) (by decide) i u⟩
  have ho : X.ownsRow w.heap.size 41 7 (.slice A5 n5 c5) l5.length (allCells l5) := h.bm.own.own
  show (X.setCell ⟨g, i, none⟩ u).ownsRow w.heap.size 41 7 (.slice A5 n5 c5) l5.length (allCells l5)
  rcases ho.2 with ⟨hv, h0⟩ | ⟨g', cap, cur, hv, hb, hg', rest⟩
  · exact ⟨ho.1, .inl ⟨hv, h0⟩⟩
  · refine ⟨ho.1, .inr ⟨g', cap, cur, hv, hb, ?_, rest⟩⟩
    injection hv with hA _ _
    rw [Below.heap_setCell _ ⟨g, i, none⟩ _ _ (hno g' hA)]
    exact hg'
end
end Go.Proofs.YtohinklkcinjpaaGreat

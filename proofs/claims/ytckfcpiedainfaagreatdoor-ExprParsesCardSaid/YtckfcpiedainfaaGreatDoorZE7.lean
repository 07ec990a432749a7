/-
  WALKS: Show and Int of package names. Condition of these: the library's variables hold what its text lays.
  MEMORY: when a slice, a node, a model in memory reads as a list, a node, a model of plain values. No program stands in it.
  WALKS over package lex: common, the marks ahead, the reserved words.
-/
import Derived.Test.YtckfcpiedainfaaGreatDoorZE6
import Derived.Lib.LaidTab
import Derived.Lib.SmallJoins
import Derived.Shelf.SlSorted.Search
import Derived.WalkKit
import Derived.Lib.Hide
import Derived.Lib.QuietBelow
namespace Go.Proofs.YtckfcpiedainfaaGreatDoor
open Go Go.RowKit
set_option linter.unusedVariables false
/-- what the library's variables hold -/
structure Env (w : World) : Prop where
  syn : ∃ tp p, w.var? Tryz.prog "strconv.ErrSyntax" = some #[.iface tp p]
  rng : ∃ tp p, w.var? Tryz.prog "strconv.ErrRange" = some #[.iface tp p]
  tab : Lib.TabIs Tryz.prog w "internal/strconv.uint64pow10" .u64 Lib.pow10Tab
theorem gSyn : Tryz.prog.globalNamed "strconv.ErrSyntax" = some 3 := by kernel_rfl
theorem gRng : Tryz.prog.globalNamed "strconv.ErrRange" = some 4 := by kernel_rfl
theorem gTab : Tryz.prog.globalNamed "internal/strconv.uint64pow10" = some 5 := by kernel_rfl
theorem var_lt {w : World} {n : String} {g : Nat} {cs : Array Value} (hg : Tryz.prog.globalNamed n = some g) (h : w.var? Tryz.prog n = some cs) : g < w.heap.size := by
  unfold World.var? at h
  simp only [hg, Option.bind_some] at h
  by_cases hl : g < w.heap.size
  · exact hl
  · rw [Array.getElem?_eq_none (by omega)] at h; simp at h
theorem Env.below {w w' : World} (h : Env w) (hb : Below w.heap.size w w') : Env w' := by
  obtain ⟨⟨t1, p1, h1⟩, ⟨t2, p2, h2⟩, h3⟩ := h
  exact ⟨⟨t1, p1, var?_below hb gSyn (var_lt gSyn h1) h1⟩, ⟨t2, p2, var?_below hb gRng (var_lt gRng h2) h2⟩, var?_below hb gTab (var_lt gTab h3) h3⟩
/-- a string told, memory at most grown -/
def Tells (w : World) (l : List UInt8) (e : Ending) (w' : World) : Prop := e = .returned (.string ⟨l.toArray⟩) ∧ Below w.heap.size w w'
set_option maxHeartbeats 400000 in
theorem show_any (n : Int) (w : World) (h0 : -9223372036854775808 ≤ n) (h1 : n ≤ 9223372036854775807) (hE : Env w) : Calls Tryz.prog 75 #[.int .i64 n] w (Tells w (Lib.itoa n)) := by
  have H : Hid (Calls Tryz.prog 93 #[.int .i64 n, .int .i64 10] w (Tells w (Lib.itoa n))) :=
    (Tryz.strconv_FormatInt_10 n h0 h1 w hE.tab).mono fun e w' ⟨he, k, os, hw⟩ => ⟨he, by rw [hw]; exact below_grown_sl _ _ _ _ (Nat.le_refl _)⟩
  clear h0 h1 hE
  go_enter Tryz.func75, Tryz.ntmps75
  go_wp2_with (go_at_call 93; refine H.out.mono ?_; rintro e w' ⟨rfl, hb⟩)
  go_ret
  exact ⟨rfl, hb⟩
/-- a number told, or none -/
def Numbers (w : World) (r : Option Int) (e : Ending) (w' : World) : Prop := e = .returned (.tuple #[.int .i64 (r.getD 0), .int .i64 (if r.isSome then 0 else 2)]) ∧ Below w.heap.size w w'
/-- what ParseInt tells: no error and the number, or an error -/
def Parses (w : World) (l : List UInt8) (e : Ending) (w' : World) : Prop :=
  ∃ (n : Int) (v : Value), e = .returned (.tuple #[.int .i64 n, v]) ∧ Below w.heap.size w w' ∧
    ((v = .nilIface ∧ Lib.parseIntB 64 l = .ok n) ∨ (∃ t p, v = .iface t p) ∧ ∀ u, Lib.parseIntB 64 l ≠ .ok u)
theorem parse_any (s : ByteArray) (w : World) (hs : s.size ≤ 281474976710656) (hE : Env w) : Calls Tryz.prog 74 #[.string s, .int .i64 10, .int .i64 64] w (Parses w s.data.toList) := by
  obtain ⟨⟨t1, p1, h1⟩, ⟨t2, p2, h2⟩, _⟩ := hE
  cases h : Lib.parseIntB 64 s.data.toList with
  | ok v =>
    refine (Tryz.strconv_ParseInt_10_at64_ok s (by omega) v h w).mono fun e w' ⟨he, hw⟩ => ⟨v, .nilIface, he, ?_, .inl ⟨rfl, h⟩⟩
    rcases hw with rfl | ⟨t, rfl⟩
    · exact Below.refl _ _
    · exact Joins.below_bytesWorld _ _ _ _ (Nat.le_refl _)
  | «syntax» =>
    exact (Tryz.strconv_ParseInt_10_at64_syntax_var s hs h t1 p1 w h1).mono fun e w' ⟨N, he, _, _, hb⟩ => ⟨0, _, he, hb, .inr ⟨⟨_, _, rfl⟩, by rw [h]; simp⟩⟩
  | range =>
    exact (Tryz.strconv_ParseInt_10_at64_range_var s hs h t2 p2 w h2).mono fun e w' ⟨N, he, _, _, hb⟩ => ⟨_, _, he, hb, .inr ⟨⟨_, _, rfl⟩, by rw [h]; simp⟩⟩
theorem intT_err {l : List UInt8} (h : ∀ u, Lib.parseIntB 64 l ≠ .ok u) : intT l = none := by
  unfold intT
  cases hp : Lib.parseIntB 64 l with
  | ok u => exact absurd hp (h u)
  | «syntax» => rfl
  | range => rfl
theorem intT_yes {l : List UInt8} {n : Int} (h : Lib.parseIntB 64 l = .ok n) (e : Lib.itoa n = l) : intT l = some n := by
  unfold intT; rw [h]; simp only; rw [if_pos e]
theorem intT_no {l : List UInt8} {n : Int} (h : Lib.parseIntB 64 l = .ok n) (e : ¬ Lib.itoa n = l) : intT l = none := by
  unfold intT; rw [h]; simp only; rw [if_neg e]
set_option maxHeartbeats 400000 in
theorem int_any (s : ByteArray) (w : World) (hs : s.size ≤ 281474976710656) (hE : Env w) : Calls Tryz.prog 53 #[.string s] w (Numbers w (intT s.data.toList)) := by
  have HE := Lib.hid hE
  clear hE
  go_enter Tryz.func53, Tryz.ntmps53
  go_wp2_with fail
  refine (parse_any s w hs HE.out).mono ?_
  rintro e w1 ⟨n, v, rfl, hb, hv⟩
  rcases hv with ⟨rfl, hp⟩ | ⟨⟨t, p, rfl⟩, hno⟩
  · have hbd := Lib.parseIntB_bounds hp
    simp at hbd
    have HS : Hid (Calls Tryz.prog 75 #[.int .i64 n] w1 (Tells w1 (Lib.itoa n))) := show_any n w1 (by omega) (by omega) (HE.out.below hb)
    have HP := Lib.hid hp
    clear hbd hp
    by_cases he : Lib.itoa n = s.data.toList
    · have d1 : (Lib.itoa n == s.toList) = true := by rw [Lib.toList_data, he]; simp
      have HR : Hid (intT s.data.toList = some n) := Lib.hid (intT_yes HP.out he)
      clear he
      go_wp2_with (go_at_call 75; refine HS.out.mono ?_; rintro e w2 ⟨rfl, hb2⟩)
      go_ret2
      exact ⟨by rw [HR.out]; rfl, hb.trans (hb2.mono hb.size)⟩
    · have d1 : (Lib.itoa n == s.toList) = false := by rw [Lib.toList_data]; simpa using he
      have HR : Hid (intT s.data.toList = none) := Lib.hid (intT_no HP.out he)
      clear he
      go_wp2_with (go_at_call 75; refine HS.out.mono ?_; rintro e w2 ⟨rfl, hb2⟩)
      go_ret2
      exact ⟨by rw [HR.out]; rfl, hb.trans (hb2.mono hb.size)⟩
  · have HR : Hid (intT s.data.toList = none) := Lib.hid (intT_err hno)
    clear hno
    go_wp2_with fail
    go_ret2
    exact ⟨by rw [HR.out]; rfl, hb⟩
end Go.Proofs.YtckfcpiedainfaaGreatDoor
namespace Go.Proofs.YtckfcpiedainfaaGreatDoor
open Go Go.RowKit Go.Sort
set_option linter.unusedVariables false
/-- a node -/
structure Nd where
  id : Int
  con : ByteArray
  par : Int
  role : ByteArray
  props : List (ByteArray × ByteArray)
  kids : List Int
  refs : List (ByteArray × Int)
/-- what a call answers that makes memory of its own at most -/
def Ret (w : World) (v : Value) (e : Ending) (w' : World) : Prop := e = .returned v ∧ Below w.heap.size w w'
theorem below_drewN {B : Nat} {a w : World} (h : Below B a w) (n : Nat) : Below B a (w.drewN n) := ⟨h.os, h.tape, h.output, h.size, h.block⟩
/-- the slice value '.slice A n c' holds the cells xs, 'size' of them an element, in a block from lo on and below hi -/
def Row (w : World) (lo hi size : Nat) (A : Option Addr) (n c : Nat) (xs : List Value) : Prop :=
  xs.length = n * size ∧ n ≤ c ∧ c ≤ maxLen ∧ (0 < n → ∃ b o, A = some ⟨b, o, none⟩ ∧ lo ≤ b ∧ b < hi ∧ ∀ j u, xs[j]? = some u → w.cell? ⟨b, o + j, none⟩ = some u)
section
variable {w w' : World} {lo hi size n c : Nat} {A : Option Addr} {xs : List Value}
theorem Row.nil (w : World) (lo hi size : Nat) : Row w lo hi size none 0 0 [] := ⟨by simp, Nat.le_refl _, Nat.zero_le _, fun h => absurd h (by omega)⟩
theorem Row.keep (h : Row w lo hi size A n c xs) (hk : ∀ b o, b < hi → w'.cell? ⟨b, o, none⟩ = w.cell? ⟨b, o, none⟩) : Row w' lo hi size A n c xs :=
  ⟨h.1, h.2.1, h.2.2.1, fun hn => by
    obtain ⟨b, o, e, h1, h2, hc⟩ := h.2.2.2 hn
    exact ⟨b, o, e, h1, h2, fun j u hu => (hk b _ h2).trans (hc j u hu)⟩⟩
theorem Row.below (h : Row w lo hi size A n c xs) (hb : Below hi w w') : Row w' lo hi size A n c xs := h.keep fun _ _ hp => hb.cell (p := ⟨_, _, none⟩) hp
theorem Row.mono (h : Row w lo hi size A n c xs) {lo' hi' : Nat} (hl : lo' ≤ lo) (hh : hi ≤ hi') : Row w lo' hi' size A n c xs :=
  ⟨h.1, h.2.1, h.2.2.1, fun hn => by
    obtain ⟨b, o, e, h1, h2, hc⟩ := h.2.2.2 hn
    exact ⟨b, o, e, by omega, by omega, hc⟩⟩
/-- where the cells are -/
theorem Row.at_ (h : Row w lo hi size A n c xs) (hn : 0 < n) : ∃ b o, A = some ⟨b, o, none⟩ ∧ lo ≤ b ∧ b < hi ∧ ∀ j u, xs[j]? = some u → w.cell? ⟨b, o + j, none⟩ = some u := h.2.2.2 hn
end
def Blk (w : World) (g : Nat) (t : TypeId) (cs : Array Value) : Prop := w.heap[g]? = some (.cells cs t (0, 0))
section
variable {w w' : World} {g : Nat} {t : TypeId} {cs : Array Value}
theorem Blk.lt (h : Blk w g t cs) : g < w.heap.size := by
  rcases Nat.lt_or_ge g w.heap.size with hlt | hge
  · exact hlt
  · unfold Blk at h; rw [Array.getElem?_eq_none hge] at h; cases h
theorem Blk.cell (h : Blk w g t cs) (i : Nat) : w.cell? ⟨g, i, none⟩ = cs[i]? := cell_of_row w g i cs t (0, 0) h
theorem Blk.frozen (h : Blk w g t cs) (i : Nat) : w.frozen? ⟨g, i, none⟩ = false := by
  unfold Blk at h
  simp [World.frozen?, h]
theorem Blk.new (w : World) (t : TypeId) (cs : Array Value) : Blk (w.alloc (.cells cs t)) w.heap.size t cs := heap_alloc_new w _
theorem Blk.new' {w : World} {t : TypeId} {cs : Array Value} {g : Nat} (hg : g = w.heap.size) : Blk (w.alloc (.cells cs t)) g t cs := by rw [hg]; exact heap_alloc_new w _
theorem Blk.drewN (h : Blk w g t cs) (n : Nat) : Blk (w.drewN n) g t cs := h
theorem Blk.alloc (h : Blk w g t cs) (o : Obj) : Blk (w.alloc o) g t cs := (Below.heap_alloc w o g h.lt).trans h
theorem Blk.set_ (h : Blk w g t cs) (i : Nat) (u : Value) : Blk (w.setCell ⟨g, i, none⟩ u) g t (cs.setIfInBounds i u) := by
  unfold Blk at h ⊢
  simp [World.setCell, Array.getElem?_modify, h]
theorem Blk.far (h : Blk w g t cs) {p : Addr} (hp : g ≠ p.block) (u : Value) : Blk (w.setCell p u) g t cs := (Below.heap_setCell w p u g hp).trans h
theorem Blk.below {B : Nat} (h : Blk w g t cs) (hb : Below B w w') (hg : g < B) : Blk w' g t cs := (hb.block g hg).trans h
theorem Blk.after (h : Blk w g t cs) (hb : Below w.heap.size w w') : Blk w' g t cs := h.below hb h.lt
theorem Blk.grown {row : Option Nat} (h : Blk w g t cs) (hb : w.grownBy w' row) (hg : some g ≠ row) : Blk w' g t cs := (hb.block g h.lt hg).trans h
theorem Blk.ne_ {g' : Nat} {t' : TypeId} {cs' : Array Value} (h : Blk w g t cs) (h' : Blk w g' t' cs') (hne : t ≠ t') : g ≠ g' := by
  rintro rfl
  unfold Blk at h h'
  rw [h] at h'
  injection h' with h'
  injection h' with _ ht
  exact hne ht
end
def propCells (l : List (ByteArray × ByteArray)) : List Value := l.flatMap fun p => [.string p.1, .string p.2]
def refCells (l : List (ByteArray × Int)) : List Value := l.flatMap fun p => [.string p.1, .int .i64 p.2]
def intCells (l : List Int) : List Value := l.map (.int .i64)
theorem intCells_length (l : List Int) : (intCells l).length = l.length := by simp [intCells]
theorem intCells_get {l : List Int} {i : Nat} {p : Int} (h : l[i]? = some p) : (intCells l)[i]? = some (.int .i64 p) := by
  simp [intCells, h]
/-- a block of numbers -/
def IBlk (w : World) (g : Nat) (a : List Int) : Prop := Blk w g 3 (intCells a).toArray
section
variable {w w' : World} {g : Nat} {a : List Int}
theorem IBlk.cell (h : IBlk w g a) {i : Nat} (hi : i < a.length) : w.cell? ⟨g, i, none⟩ = some (.int .i64 (a.getD i 0)) := by
  rw [Blk.cell h]
  simp [intCells, hi]
theorem IBlk.set_ (h : IBlk w g a) (i : Nat) (x : Int) : IBlk (w.setCell ⟨g, i, none⟩ (.int .i64 x)) g (a.set i x) := by
  have := Blk.set_ h i (.int .i64 x)
  unfold IBlk
  have e : (intCells (a.set i x)).toArray = (intCells a).toArray.setIfInBounds i (.int .i64 x) := by simp [intCells, List.map_set]
  rw [e]; exact this
theorem IBlk.after (h : IBlk w g a) (hb : Below w.heap.size w w') : IBlk w' g a := Blk.after h hb
theorem IBlk.lt (h : IBlk w g a) : g < w.heap.size := Blk.lt h
theorem IBlk.row (h : IBlk w g a) {lo hi n c : Nat} (hn : a.length = n) (hc : n ≤ c) (hm : c ≤ maxLen) (hl : lo ≤ g) (hh : g < hi) : Row w lo hi 1 (some ⟨g, 0, none⟩) n c (intCells a) :=
  ⟨by rw [intCells_length]; omega, hc, hm, fun _ => ⟨g, 0, rfl, hl, hh, fun j u hu => by rw [Nat.zero_add, Blk.cell h]; simpa using hu⟩⟩
end
/-- a slice value, its three parts -/
structure Sl where
  A : Option Addr
  n : Nat
  c : Nat
def Sl.v (s : Sl) : Value := .slice s.A s.n s.c
/-- a node's three lists as they lie in memory -/
structure Leaf where
  p : Sl
  k : Sl
  r : Sl
/-- the texts of a node are no longer than texts may be -/
structure SzN (nd : Nd) : Prop where
  con : nd.con.size ≤ maxLen
  role : nd.role.size ≤ maxLen
  props : ∀ p ∈ nd.props, p.1.size ≤ maxLen ∧ p.2.size ≤ maxLen
  refs : ∀ p ∈ nd.refs, p.1.size ≤ maxLen
/-- the lists of a node -/
structure LeafIn (w : World) (lo hi : Nat) (nd : Nd) (L : Leaf) : Prop where
  pn : L.p.n = nd.props.length
  kn : L.k.n = nd.kids.length
  rn : L.r.n = nd.refs.length
  p : Row w lo hi 2 L.p.A L.p.n L.p.c (propCells nd.props)
  k : Row w lo hi 1 L.k.A L.k.n L.k.c (intCells nd.kids)
  r : Row w lo hi 2 L.r.A L.r.n L.r.c (refCells nd.refs)
  sz : SzN nd
/-- a node's seven cells -/
structure NodeAt (w : World) (b o : Nat) (nd : Nd) (L : Leaf) : Prop where
  c0 : w.cell? ⟨b, o, none⟩ = some (.int .i64 nd.id)
  c1 : w.cell? ⟨b, o + 1, none⟩ = some (.string nd.con)
  c2 : w.cell? ⟨b, o + 2, none⟩ = some (.int .i64 nd.par)
  c3 : w.cell? ⟨b, o + 3, none⟩ = some (.string nd.role)
  c4 : w.cell? ⟨b, o + 4, none⟩ = some (.slice L.p.A L.p.n L.p.c)
  c5 : w.cell? ⟨b, o + 5, none⟩ = some (.slice L.k.A L.k.n L.k.c)
  c6 : w.cell? ⟨b, o + 6, none⟩ = some (.slice L.r.A L.r.n L.r.c)
/-- the slice '.slice A n c' holds these nodes; what they hold lies below hi, from lo on -/
def NodesIn (w : World) (lo hi : Nat) (A : Option Addr) (n c : Nat) (nds : List Nd) : Prop :=
  nds.length = n ∧ n ≤ c ∧ c ≤ maxLen ∧ (0 < n → ∃ b o, A = some ⟨b, o, none⟩ ∧ lo ≤ b ∧ b < hi ∧ ∃ V : Nat → Leaf, ∀ i nd, nds[i]? = some nd → NodeAt w b (o + i * 7) nd (V i) ∧ LeafIn w lo hi nd (V i))
section
variable {w w' : World} {lo hi n c : Nat} {A : Option Addr} {nds : List Nd} {nd : Nd} {L : Leaf} {b o : Nat}
theorem LeafIn.keep (h : LeafIn w lo hi nd L) (hk : ∀ b o, b < hi → w'.cell? ⟨b, o, none⟩ = w.cell? ⟨b, o, none⟩) : LeafIn w' lo hi nd L := ⟨h.pn, h.kn, h.rn, h.p.keep hk, h.k.keep hk, h.r.keep hk, h.sz⟩
theorem LeafIn.below (h : LeafIn w lo hi nd L) (hb : Below hi w w') : LeafIn w' lo hi nd L := ⟨h.pn, h.kn, h.rn, h.p.below hb, h.k.below hb, h.r.below hb, h.sz⟩
theorem LeafIn.mono (h : LeafIn w lo hi nd L) {lo' hi' : Nat} (hl : lo' ≤ lo) (hh : hi ≤ hi') : LeafIn w lo' hi' nd L := ⟨h.pn, h.kn, h.rn, h.p.mono hl hh, h.k.mono hl hh, h.r.mono hl hh, h.sz⟩
theorem NodeAt.keep (h : NodeAt w b o nd L) (hk : ∀ x, w'.cell? ⟨b, x, none⟩ = w.cell? ⟨b, x, none⟩) : NodeAt w' b o nd L :=
  ⟨(hk _).trans h.c0, (hk _).trans h.c1, (hk _).trans h.c2, (hk _).trans h.c3, (hk _).trans h.c4, (hk _).trans h.c5, (hk _).trans h.c6⟩
theorem NodeAt.below (h : NodeAt w b o nd L) (hb : Below hi w w') (hlt : b < hi) : NodeAt w' b o nd L := h.keep fun _ => hb.cell (p := ⟨_, _, none⟩) hlt
theorem NodesIn.nil (w : World) (lo hi : Nat) : NodesIn w lo hi none 0 0 [] := ⟨rfl, Nat.le_refl _, Nat.zero_le _, fun h => absurd h (by omega)⟩
theorem NodesIn.keep (h : NodesIn w lo hi A n c nds) (hk : ∀ b o, b < hi → w'.cell? ⟨b, o, none⟩ = w.cell? ⟨b, o, none⟩) : NodesIn w' lo hi A n c nds :=
  ⟨h.1, h.2.1, h.2.2.1, fun hn => by
    obtain ⟨b, o, e, h1, h2, V, hc⟩ := h.2.2.2 hn
    exact ⟨b, o, e, h1, h2, V, fun i nd hi => ⟨(hc i nd hi).1.keep (fun x => hk b x h2), (hc i nd hi).2.keep hk⟩⟩⟩
theorem NodesIn.below (h : NodesIn w lo hi A n c nds) (hb : Below hi w w') : NodesIn w' lo hi A n c nds := h.keep fun _ _ hp => hb.cell (p := ⟨_, _, none⟩) hp
theorem NodesIn.mono (h : NodesIn w lo hi A n c nds) {lo' hi' : Nat} (hl : lo' ≤ lo) (hh : hi ≤ hi') : NodesIn w lo' hi' A n c nds :=
  ⟨h.1, h.2.1, h.2.2.1, fun hn => by
    obtain ⟨b, o, e, h1, h2, V, hc⟩ := h.2.2.2 hn
    exact ⟨b, o, e, by omega, by omega, V, fun i nd hi => ⟨(hc i nd hi).1, (hc i nd hi).2.mono hl hh⟩⟩⟩
/-- the node at a place -/
theorem NodesIn.at_ (h : NodesIn w lo hi A n c nds) {i : Nat} (hi' : i < n) : ∃ b o nd L, A = some ⟨b, o, none⟩ ∧ lo ≤ b ∧ b < hi ∧ nds[i]? = some nd ∧ NodeAt w b (o + i * 7) nd L ∧ LeafIn w lo hi nd L := by
  obtain ⟨b, o, e, h1, h2, V, hc⟩ := h.2.2.2 (by omega)
  have hl : i < nds.length := by rw [h.1]; exact hi'
  have hg : nds[i]? = some nds[i] := List.getElem?_eq_getElem hl
  exact ⟨b, o, nds[i], V i, e, h1, h2, hg, (hc i _ hg).1, (hc i _ hg).2⟩
/-- where they are, and all of them -/
theorem NodesIn.all (h : NodesIn w lo hi A n c nds) (hn : 0 < n) : ∃ b o, A = some ⟨b, o, none⟩ ∧ lo ≤ b ∧ b < hi ∧ ∃ V : Nat → Leaf, ∀ i nd, nds[i]? = some nd → NodeAt w b (o + i * 7) nd (V i) ∧ LeafIn w lo hi nd (V i) := h.2.2.2 hn
end
end Go.Proofs.YtckfcpiedainfaaGreatDoor
namespace Go.Proofs.YtckfcpiedainfaaGreatDoor
open Go Go.RowKit
set_option linter.unusedVariables false
set_option maxHeartbeats 400000 in
theorem lexCommon_any (s t : ByteArray) (w : World) (hs : s.size ≤ maxLen) (ht : t.size ≤ maxLen) :
    Calls Tryz.prog 78 #[.string s, .string t] w (Commoned w (common s.data.toList t.data.toList)) := by
  unfold maxLen at hs ht
  go_enter Tryz.func78, Tryz.ntmps78
  go_wp2_with fail
  go_loopw [5] (fun i wr => CommonRel s t w i wr) (fun i _ => s.size - (intOf i).toNat)
  case atStart => exact ⟨0, by omega, by omega, rfl, by simp, 0, rfl⟩
  case round =>
    obtain ⟨k, hk1, hk2, rfl, hc, q, rfl⟩ := hrel
    have HC := Lib.hid hc
    clear hc
    have hsz : s.data.toList.length = s.size := by rw [Array.length_toList]; rfl
    have htz : t.data.toList.length = t.size := by rw [Array.length_toList]; rfl
    have HS := Lib.hid hsz
    have HT := Lib.hid htz
    clear hsz htz
    by_cases h1 : k < s.size
    · have d1 : ((k : Int) < (s.size : Int)) := by omega
      by_cases h2 : k < t.size
      · have d2 : ((k : Int) < (t.size : Int)) := by omega
        by_cases h3 : s[k] = t[k]
        · have d3 : ((s[k].toNat : Int) == (t[k].toNat : Int)) = true := by rw [beq_iff_eq, h3]
          have hnx := common_step HC.out (by rw [HS.out]; exact h1) (by rw [HT.out]; exact h2) h3
          have HX := Lib.hid hnx
          clear hnx h3
          go_wp2_with fail
          go_quiet (fail)
          go_wp2
          go_roundw
          case rel => exact ⟨k + 1, by omega, by omega, by go_num, HX.out, _, rfl⟩
          case measure => simp [intOf]; omega
        · have hne : s[k].toNat ≠ t[k].toNat := fun e => h3 (UInt8.toNat_inj.1 e)
          have d3 : ((s[k].toNat : Int) == (t[k].toNat : Int)) = false := by rw [beq_eq_false_iff_ne]; omega
          have hst := common_stop HC.out (.inr ⟨by rw [HS.out]; exact h1, by rw [HT.out]; exact h2, h3⟩)
          have HX := Lib.hid hst
          clear hst h3 hne
          go_wp2_with fail
          go_quiet (fail)
          go_wp2
          go_ret
          exact ⟨ret_int (by rw [HX.out]), drewN_two _ _ _⟩
      · have d2 : decide ((k : Int) < (t.size : Int)) = false := by simp; omega
        go_wp2_with fail
        go_quiet (fail)
        go_wp2
        go_ret
        exact ⟨ret_int (by rw [common_stop HC.out (.inl (by rw [HT.out]; omega))]), drewN_two _ _ _⟩
    · have d1 : decide ((k : Int) < (s.size : Int)) = false := by simp; omega
      go_wp2_with fail
      go_quiet (fail)
      go_wp2
      go_ret
      exact ⟨ret_int (by rw [common_stop HC.out (.inl (by rw [HS.out]; omega))]), drewN_two _ _ _⟩
def strsV (l : List (List UInt8)) : Array Value := (l.map fun m => Value.string (ba m)).toArray
/-- what package lex's variables and the number's table hold -/
structure LexEnv (w : World) : Prop where
  tab : Lib.TabIs Tryz.prog w "internal/strconv.uint64pow10" .u64 Lib.pow10Tab
  words : ∃ t fr, w.heap[2]? = some (.cells (strsV wordsL) t fr)
  marks : ∃ t fr, w.heap[1]? = some (.cells (strsV marksL) t fr)
theorem heap_lt {w : World} {g : Nat} {o : Obj} (h : w.heap[g]? = some o) : g < w.heap.size := (Array.getElem?_eq_some_iff.1 h).1
theorem LexEnv.below {w w' : World} (h : LexEnv w) (hb : Below w.heap.size w w') : LexEnv w' := by
  obtain ⟨h3, ⟨t1, f1, h1⟩, ⟨t2, f2, h2⟩⟩ := h
  exact ⟨var?_below hb gTab (var_lt gTab h3) h3, ⟨t1, f1, (hb.block _ (heap_lt h1)).trans h1⟩, ⟨t2, f2, (hb.block _ (heap_lt h2)).trans h2⟩⟩
theorem info84 : (Tryz.prog.info? 127).map (·.size) = some (strsV marksL).size := by kernel_rfl
theorem info88 : (Tryz.prog.info? 138).map (·.size) = some (strsV wordsL).size := by kernel_rfl
theorem run_index_strs (t : TypeId) (n : Nat) (cs : Array Value) (k : Nat) (s : ByteArray) (w : World) (hu : Tryz.prog.underlying t = some (.array n 9)) (hk : k < n) (hc : cs[k]? = some (.string s)) :
    (Instr.index t (.agg cs) (.int .i64 k)).run Tryz.prog w = .ok (.string s) w := by
  have h1 : (sizeOf 9).run Tryz.prog w = .ok 1 w := by
    have : (Tryz.prog.info? 9).map (·.size) = some 1 := by kernel_rfl
    cases hq : Tryz.prog.info? 9 with
    | none => rw [hq] at this; cases this
    | some i => rw [hq] at this; simp at this; simp [sizeOf, typeInfo, hq, this]
  have h2 : (isAgg 9).run Tryz.prog w = .ok false w := by
    unfold isAgg
    rw [Sem.run_bind, run_underlying Tryz.underlying9 w]
    rfl
  have hb : (0 : Int) ≤ (k : Int) ∧ (k : Int) < (n : Int) := by omega
  simp [Instr.index, asIntOf, run_underlying hu, hb, Sem.run_bind, h1, part, h2, hc, hk]
theorem wpList_index_strs {w : World} {ops : Array Oper} {rest : List Oper} {o : Oper} {a : Act} {Q : Exit → Act → World → Prop} (hgd : o.guard = none) (t : TypeId) (x i : Operand) (ho : o.op = .index t x i)
    (n : Nat) (cs : Array Value) (k : Nat) (s : ByteArray) (hx : a.eval x = .agg cs) (hi : a.eval i = .int .i64 k) (hu : Tryz.prog.underlying t = some (.array n 9)) (hk : k < n) (hc : cs[k]? = some (.string s))
    (h : wpList Tryz.prog ops Q rest (a.put o.dst (.string s)) w) : wpList Tryz.prog ops Q (o :: rest) a w :=
  wpList_plain hgd fun K hK => by
    unfold Oper.wp execOp
    have hr := run_index_strs t n cs k s w hu hk hc
    simp only [ho, hx, hi, Sem.run_bind, Sem.run_pure, Result.andThen_ok, hr]
    exact hK _ _ h
structure IsAt (l : List (List UInt8)) (k : Nat) (M : ByteArray) : Prop where
  out : l[k]? = some M.data.toList
structure IsTab (l : List (List UInt8)) (V : Array Value) : Prop where
  out : strsV l = V
theorem IsTab.at_ {l : List (List UInt8)} {V : Array Value} (h : IsTab l V) {k : Nat} (hk : k < l.length) : ∃ M, IsAt l k M ∧ V[k]? = some (.string M) := by
  refine ⟨ba l[k], ⟨by rw [List.getElem?_eq_getElem hk]; simp [ba]⟩, ?_⟩
  rw [← h.out]; simp [strsV, hk]
/-- the word is none of the first k ones -/
structure WordAt (S : List UInt8) (k : Nat) : Prop where
  out : wordB S = (wordsL.drop k).contains S
theorem drop_at {l : List (List UInt8)} {k : Nat} {M : ByteArray} (h : IsAt l k M) : l.drop k = M.data.toList :: l.drop (k + 1) := by
  obtain ⟨hk, e⟩ := List.getElem?_eq_some_iff.1 h.out
  rw [List.drop_eq_getElem_cons hk, e]
theorem word_yes {s M : ByteArray} {k : Nat} (h : WordAt s.data.toList k) (hm : IsAt wordsL k M) (he : (M.toList == s.toList) = true) : wordB s.data.toList = true := by
  rw [h.out, drop_at hm]
  rw [Lib.toList_data, Lib.toList_data] at he
  rw [eq_of_beq he]; simp
theorem word_no {s M : ByteArray} {k : Nat} (h : WordAt s.data.toList k) (hm : IsAt wordsL k M) (he : (M.toList == s.toList) = false) : WordAt s.data.toList (k + 1) := by
  refine ⟨?_⟩
  rw [h.out, drop_at hm]
  rw [Lib.toList_data, Lib.toList_data] at he
  have hne : (s.data.toList == M.data.toList) = false := by
    rw [beq_eq_false_iff_ne] at he ⊢
    exact fun e => he e.symm
  rw [List.contains_cons, hne, Bool.false_or]
theorem word_end {s : ByteArray} {k : Nat} (h : WordAt s.data.toList k) (hk : 22 ≤ k) : wordB s.data.toList = false := by
  rw [h.out, List.drop_eq_nil_of_le hk]; rfl
set_option maxHeartbeats 400000 in
theorem reserved_any (s : ByteArray) (w : World) (hs : s.size ≤ maxLen) (hE : LexEnv w) : Calls Tryz.prog 73 #[.string s] w (Says w (wordB s.data.toList)) := by
  unfold maxLen at hs
  have hg := hE.words
  clear hE
  obtain ⟨t, fr, hg⟩ := hg
  have hi := info88
  obtain ⟨V, hV⟩ : ∃ V, strsV wordsL = V := ⟨_, rfl⟩
  rw [hV] at hg hi
  have HV : IsTab wordsL V := ⟨hV⟩
  clear hV
  go_enter Tryz.func73, Tryz.ntmps73
  go_wp2_with (refine wpList_load_row rfl _ _ rfl 2 rfl t V fr _ hg Tryz.underlying138 rfl hi ?_)
  clear hi
  go_loop [4, 6] (fun x i => ∃ k : Nat, k ≤ 22 ∧ i = .int .i64 k ∧ WordAt s.data.toList k) (fun _ i => 22 - (intOf i).toNat)
  case atStart => exact ⟨0, by omega, rfl, ⟨rfl⟩⟩
  case round =>
    obtain ⟨k, hk, rfl, HK⟩ := hrel
    by_cases hlt : k < 22
    · obtain ⟨M, HM, hc⟩ := HV.at_ (k := k) hlt
      clear HV
      cases he : (M.toList == s.toList) with
      | true =>
        go_wp2_with (refine wpList_index_strs rfl _ _ _ rfl 22 V k M rfl rfl Tryz.underlying138 hlt hc ?_)
        go_ret
        exact ⟨ret_bool (word_yes HK HM he).symm, rfl⟩
      | false =>
        go_wp2_with (refine wpList_index_strs rfl _ _ _ rfl 22 V k M rfl rfl Tryz.underlying138 hlt hc ?_)
        go_round
        case rel => exact ⟨k + 1, by omega, by go_num, word_no HK HM he⟩
        case measure => simp [intOf]; omega
    · go_wp2
      go_ret
      exact ⟨ret_bool (word_end HK (by omega)).symm, rfl⟩
end Go.Proofs.YtckfcpiedainfaaGreatDoor

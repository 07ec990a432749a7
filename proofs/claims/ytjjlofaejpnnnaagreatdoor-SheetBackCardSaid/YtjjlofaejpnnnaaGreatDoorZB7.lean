/-
  A MODEL's TEXT in plain mathematics: its lines; a page that takes no more once it is too long.
  WALKS over package names: addForm, Quote.
  WALKS over package names: Quote.
  A PAGE IN MEMORY: a box that holds bytes of the call's own; WALKS over package sheet: long, line, show.
  WALKS over package sheet: show; node: the node with a number, in its place.
-/
import Derived.Test.YtjjlofaejpnnnaaGreatDoorZB6
import Derived.Lib.ItoaLen
import Derived.Deep.Cut
namespace Go.Proofs.YtjjlofaejpnnnaaGreatDoor
open Go Go.RowKit
set_option linter.unusedVariables false
def bl (k : Nat) : List UInt8 := List.replicate k 32
theorem bl_len (k : Nat) : (bl k).length = k := List.length_replicate
theorem bl_succ (k : Nat) : bl (k + 1) = bl k ++ [32] := List.replicate_succ'
/-- the lines of a node that stands so deep -/
def lineN (nd : Nd) (deep : Nat) : List UInt8 := bl (deep - 1) ++ (Lib.itoa nd.id ++ 32 :: ((if nd.par = 0 then [] else nd.role.data.toList ++ [32]) ++ nd.con.data.toList)) ++ [10]
def lineP (p : ByteArray × ByteArray) (deep : Nat) : List UInt8 := bl deep ++ (46 :: (p.1.data.toList ++ 61 :: quote p.2.data.toList)) ++ [10]
def lineR (r : ByteArray × Int) (deep : Nat) : List UInt8 := bl deep ++ (62 :: (r.1.data.toList ++ 61 :: Lib.itoa r.2)) ++ [10]
def nodeL (nd : Nd) (deep : Nat) : List (List UInt8) := lineN nd deep :: (nd.props.map (lineP · deep) ++ nd.refs.map (lineR · deep))
def headL (next : Int) : List UInt8 := [110, 101, 120, 116, 32] ++ Lib.itoa next ++ [10]
/-- a line more, unless the page is too long already -/
def pageA (L ln : List UInt8) : List UInt8 := if 1048576 < L.length then L else L ++ ln
def pageV (L : List UInt8) (ls : List (List UInt8)) : List UInt8 := ls.foldl pageA L
theorem pageV_nil (L : List UInt8) : pageV L [] = L := rfl
theorem pageV_cons (L l : List UInt8) (ls : List (List UInt8)) : pageV L (l :: ls) = pageV (pageA L l) ls := rfl
theorem pageV_append (L : List UInt8) (a b : List (List UInt8)) : pageV L (a ++ b) = pageV (pageV L a) b := List.foldl_append
theorem pageV_stuck : ∀ (ls : List (List UInt8)) (L : List UInt8), 1048576 < L.length → pageV L ls = L
  | [], _, _ => rfl
  | l :: ls, L, h => by rw [pageV_cons, show pageA L l = L from by unfold pageA; rw [if_pos h]]; exact pageV_stuck ls L h
theorem pageV_short : ∀ (ls : List (List UInt8)) (L : List UInt8), (L ++ ls.flatten).length ≤ 1048576 → pageV L ls = L ++ ls.flatten
  | [], L, _ => by simp [pageV_nil]
  | l :: ls, L, h => by
    rw [List.flatten_cons, ← List.append_assoc] at h
    have h1 : ¬ 1048576 < L.length := by simp only [List.length_append] at h; omega
    rw [pageV_cons, show pageA L l = L ++ l from by unfold pageA; rw [if_neg h1], pageV_short ls _ h, List.flatten_cons, List.append_assoc]
theorem pageV_long : ∀ (ls : List (List UInt8)) (L : List UInt8), 1048576 < (L ++ ls.flatten).length → 1048576 < (pageV L ls).length
  | [], L, h => by simpa [pageV_nil] using h
  | l :: ls, L, h => by
    rw [pageV_cons]
    by_cases h1 : 1048576 < L.length
    · rw [show pageA L l = L from by unfold pageA; rw [if_pos h1], pageV_stuck ls L h1]; exact h1
    · rw [show pageA L l = L ++ l from by unfold pageA; rw [if_neg h1]]
      rw [List.flatten_cons, ← List.append_assoc] at h
      exact pageV_long ls _ h
/-- what is told of a text: it, or that it is too long -/
def toldV (T : List UInt8) : List UInt8 × Int := if 1048576 < T.length then ([], 3) else (T, 0)
theorem toldV_page (L : List UInt8) (ls : List (List UInt8)) : (if 1048576 < (pageV L ls).length then ([], 3) else (pageV L ls, 0)) = toldV (L ++ ls.flatten) := by
  unfold toldV
  by_cases h : 1048576 < (L ++ ls.flatten).length
  · rw [if_pos h, if_pos (pageV_long ls L h)]
  · rw [if_neg h, pageV_short ls L (by omega), if_neg h]
/-- a model's text, and the error -/
def nodeT (nds : List Nd) (p : Int × Nat) : List (List UInt8) := match ndOf nds p.1 with
  | some nd => nodeL nd p.2
  | none => []
def printV (next : Int) (nds : List Nd) : List UInt8 × Int :=
  if rightB next nds = true then toldV ((headL next :: (pre nds 64 1 (rootsV nds)).flatMap (nodeT nds)).flatten) else ([], 29)
end Go.Proofs.YtjjlofaejpnnnaaGreatDoor
namespace Go.Proofs.YtjjlofaejpnnnaaGreatDoor
open Go Go.RowKit
set_option linter.unusedVariables false
theorem cells_new (w : World) (news : List UInt8) (cs : Array Value) (T : TypeId) (hc : cs.toList = news.map enc) : ∀ j u, (news.map enc)[j]? = some u → (w.alloc (.cells cs T)).cell? ((⟨w.heap.size, 0, none⟩ : Addr).add j) = some u := by
  intro j u h
  have e : (⟨w.heap.size, 0, none⟩ : Addr).add j = ⟨w.heap.size, j, none⟩ := by simp [Addr.add]; exact fun h => h.symm
  rw [e, World.cell?_alloc_at _ _ _ _ rfl, ← Array.getElem?_toList, hc, h]
theorem cells_newd (w : World) (news : List UInt8) (cs : Array Value) (T : TypeId) (hc : cs.toList = news.map enc) : ∀ j u, (news.map enc)[j]? = some u → (w.alloc (.cells cs T)).drew.cell? ((⟨w.heap.size, 0, none⟩ : Addr).add j) = some u :=
  cells_new w news cs T hc
theorem and_15 (c : UInt8) : bits BinOp.and IntKind.u8 (c.toNat : Int) 15 = (c.toNat : Int) % 16 := by
  revert c; apply all256; decide +kernel
theorem hex_at (k : Nat) (h : k < 16) : (⟨#[48, 49, 50, 51, 52, 53, 54, 55, 56, 57, 97, 98, 99, 100, 101, 102]⟩ : ByteArray)[k]'h = hexOf k := by
  have : ∀ k : Fin 16, (⟨#[48, 49, 50, 51, 52, 53, 54, 55, 56, 57, 97, 98, 99, 100, 101, 102]⟩ : ByteArray)[k.val]'k.isLt = hexOf k.val := by decide +kernel
  exact this ⟨k, h⟩
theorem toNat_q (n : Nat) : ((n : Int) / 16).toNat = n / 16 := by omega
theorem toNat_r (n : Nat) : ((n : Int) % 16).toNat = n % 16 := by omega
/-- what addForm leaves -/
def Added (B : Nat) (w : World) (l : List UInt8) (e : Ending) (w' : World) : Prop := ∃ v', e = .returned v' ∧ ownB w' B v' l ∧ Below B w w'
set_option maxHeartbeats 400000 in
theorem addForm_any (B : Nat) (v : Value) (l : List UInt8) (c : UInt8) (w : World) (hown : ownB w B v l) (hB : B ≤ w.heap.size) (hroom : l.length + 4 ≤ 140737488355328) :
    Calls Tryz.prog 96 #[v, .int .u8 c.toNat] w (Added B w (l ++ form c)) := by
  have hlt := c.toNat_lt
  by_cases c1 : c.toNat = 34 ∨ c.toNat = 92
  · have hf : form c = [92, c] := by unfold form; rw [if_pos c1]
    rw [hf]
    clear hf
    rcases c1 with c1 | c1
    · have d1 : ((c.toNat : Int) == 34) = true := by rw [beq_iff_eq]; omega
      clear c1
      go_enter Tryz.func96, Tryz.ntmps96
      go_wp2_with (at_builtin; refine app_bytes rfl _ _ rfl B v l rfl (hown.alloc _) ⟨w.heap.size, 0, none⟩ 2 2 [92, c] rfl rfl (cells_new w _ _ _ rfl) (by omega) (by simp; omega) ?_; intro v' w1 hown1 hb1)
      go_ret
      exact ⟨_, rfl, hown1, ((Below.refl _ _).alloc hB _).trans hb1⟩
    · have d1 : ((c.toNat : Int) == 92) = true := by rw [beq_iff_eq]; omega
      have d2 : ((c.toNat : Int) == 34) = false := by rw [beq_eq_false_iff_ne]; omega
      clear c1
      go_enter Tryz.func96, Tryz.ntmps96
      go_wp2_with (at_builtin; refine app_bytes rfl _ _ rfl B v l rfl (hown.alloc _) ⟨w.heap.size, 0, none⟩ 2 2 [92, c] rfl rfl (cells_new w _ _ _ rfl) (by omega) (by simp; omega) ?_; intro v' w1 hown1 hb1)
      go_ret
      exact ⟨_, rfl, hown1, ((Below.refl _ _).alloc hB _).trans hb1⟩
  · have d1 : ((c.toNat : Int) == 34) = false := by rw [beq_eq_false_iff_ne]; omega
    have d2 : ((c.toNat : Int) == 92) = false := by rw [beq_eq_false_iff_ne]; omega
    by_cases c2 : c.toNat = 10
    · have hf : form c = [92, 110] := by unfold form; rw [if_neg c1, if_pos c2]
      rw [hf]
      have d3 : ((c.toNat : Int) == 10) = true := by rw [beq_iff_eq]; omega
      clear hf c1 c2
      go_enter Tryz.func96, Tryz.ntmps96
      go_wp2_with (at_builtin; refine app_bytes rfl _ _ rfl B v l rfl (hown.alloc _) ⟨w.heap.size, 0, none⟩ 2 2 [92, 110] rfl rfl (cells_new w _ _ _ rfl) (by omega) (by simp; omega) ?_; intro v' w1 hown1 hb1)
      go_ret
      exact ⟨_, rfl, hown1, ((Below.refl _ _).alloc hB _).trans hb1⟩
    · have d3 : ((c.toNat : Int) == 10) = false := by rw [beq_eq_false_iff_ne]; omega
      cases hn : numBQ (c.toNat : Int) with
      | false =>
        have hf : form c = [c] := by unfold form; rw [if_neg c1, if_neg c2, hn]; rfl
        rw [hf]
        have HN := Lib.hid hn
        clear hf c1 c2 hn
        go_enter Tryz.func96, Tryz.ntmps96
        go_wp2_with (first | (at_builtin; refine app_bytes rfl _ _ rfl B v l rfl (hown.alloc _) ⟨w.heap.size, 0, none⟩ 1 1 [c] rfl rfl (cells_new w _ _ _ rfl) (by omega) (by simp; omega) ?_; intro v' w1 hown1 hb1) | (go_at_call 111; refine (numbered_no _ _ HN.out).mono ?_; rintro e w' ⟨rfl, rfl⟩))
        go_ret
        exact ⟨_, rfl, hown1, ((Below.refl _ _).alloc hB _).trans hb1⟩
      | true =>
        have hf : form c = [92, 120, hexOf (c.toNat / 16), hexOf (c.toNat % 16)] := by unfold form; rw [if_neg c1, if_neg c2, hn]; rfl
        rw [hf]
        have HN := Lib.hid hn
        have q0 : 0 ≤ (c.toNat : Int) / 16 := by omega
        have q1 : (c.toNat : Int) / 16 < 16 := by omega
        have r0 : 0 ≤ (c.toNat : Int) % 16 := by omega
        have r1 : (c.toNat : Int) % 16 < 16 := by omega
        have e15 := and_15 c
        clear hf c1 c2 hn
        go_enter Tryz.func96, Tryz.ntmps96
        go_wp2_with (go_at_call 111; refine (numbered_yes _ _ HN.out).mono ?_; rintro e w' ⟨rfl, rfl⟩)
        go_region_law (refine step_app_bytes rfl _ _ rfl B v l rfl (hown.alloc _) ⟨w.heap.size, 0, none⟩ 4 4 [92, 120, hexOf (c.toNat / 16), hexOf (c.toNat % 16)] rfl rfl (cells_newd w _ _ _ (by simp only [toNat_q, toNat_r]; rw [hex_at _ (by omega), hex_at _ (by omega)]; rfl)) (by omega) (by go_simp; omega) ?_; intro v' w1 hown1 hb1)
        all_goals go_wp2
        all_goals go_ret
        all_goals exact ⟨_, rfl, hown1, (((Below.refl _ _).alloc hB _).drew).trans hb1⟩
end Go.Proofs.YtjjlofaejpnnnaaGreatDoor
namespace Go.Proofs.YtjjlofaejpnnnaaGreatDoor
open Go Go.RowKit
set_option linter.unusedVariables false
theorem take_snoc (s : ByteArray) (k : Nat) (h : k < s.size) : s.data.toList.take (k + 1) = s.data.toList.take k ++ [s[k]] := by
  rw [List.take_succ_eq_append_getElem (by simpa using h)]; rfl
theorem flat_take_le (l : List UInt8) (k : Nat) : ((l.take k).flatMap form).length ≤ (l.flatMap form).length := by
  have h : l.flatMap form = (l.take k).flatMap form ++ (l.drop k).flatMap form := by rw [← List.flatMap_append, List.take_append_drop]
  rw [h, List.length_append]; omega
theorem flat_ge (l : List UInt8) : l.length ≤ (l.flatMap form).length := by
  induction l with
  | nil => simp
  | cons c l ih =>
    rw [List.flatMap_cons, List.length_append, List.length_cons]
    have := form_length c
    omega
def Quoted (w : World) (l : List UInt8) (e : Ending) (w' : World) : Prop := e = .returned (.string ⟨l.toArray⟩) ∧ Below w.heap.size w w'
theorem quote_rel {s : ByteArray} {k : Nat} (h : k < s.size) : (34 :: (s.data.toList.take k).flatMap form) ++ form s[k] = 34 :: (s.data.toList.take (k + 1)).flatMap form := by
  rw [take_snoc s k h, List.flatMap_append]; simp
set_option maxHeartbeats 400000 in
theorem quote_any (s : ByteArray) (w : World) (hs : (quote s.data.toList).length + 4 ≤ 140737488355328) :
    Calls Tryz.prog 61 #[.string s] w (Quoted w (quote s.data.toList)) := by
  have hq : (quote s.data.toList).length = (s.data.toList.flatMap form).length + 2 := by simp [quote]
  have hg := flat_ge s.data.toList
  have hsz : s.data.toList.length = s.size := by rw [Array.length_toList]; rfl
  have hroom : (s.data.toList.flatMap form).length + 6 ≤ 140737488355328 := by omega
  have hmax : s.size ≤ 140737488355328 := by omega
  have ROOM := Lib.hid hroom
  clear hs hq hg hsz hroom
  obtain ⟨i0, hi, hz0, hz1, hz2⟩ := info_parts byteInfo
  go_enter Tryz.func61, Tryz.ntmps61
  go_wp2_with (first | (at_make; refine wpList_make_own w rfl (.const (.int .i64 0)) (.tmp 7) 63 rfl w.heap.size 5 i0 (.int .u8 0) 1 Tryz.underlying63 hi hz0 hz1 .i64 .i64 ((s.size : Int) + 2) (s.size + 2) rfl rfl (by omega) (by rw [hz2]; omega) (by unfold maxLen; omega) (Nat.le_refl _) ?_; intro w1 hown1 hg1; have hown : ownB w1 w.heap.size (.slice (some ⟨w.heap.size, 0, none⟩) 0 (s.size + 2)) [] := hown1; have hb1 : Below w.heap.size w w1 := (Below.refl _ _).grown hg1 (Nat.le_refl _) (fun k h => by cases h); have hsz1 : w.heap.size ≤ w1.heap.size := hb1.size; clear hown1 hg1) | (at_builtin; refine app_bytes rfl _ _ rfl w.heap.size _ [] rfl (hown.alloc _) ⟨w1.heap.size, 0, none⟩ 1 1 [34] rfl rfl (cells_new w1 _ _ _ rfl) (by simp) (by simp; omega) ?_; intro v2 w2 hown2 hb2))
  have hb2' : Below w.heap.size w w2 := (hb1.alloc hsz1 _).trans hb2
  clear hb1 hb2 hown
  go_loopw [3, 4] (fun v i wr => ∃ k : Nat, k ≤ s.size ∧ i = .int .i64 k ∧ ownB wr w.heap.size v (34 :: (s.data.toList.take k).flatMap form) ∧ Below w.heap.size w wr) (fun _ i _ => s.size - (intOf i).toNat)
  case atStart => exact ⟨0, Nat.zero_le _, rfl, by simpa using hown2, hb2'⟩
  case round =>
    obtain ⟨k, hk, rfl, hown, hb⟩ := hrel
    clear hown2 hb2'
    have hfl := flat_take_le s.data.toList k
    have hszr : w.heap.size ≤ wr.heap.size := hb.size
    have hroom1 : (34 :: (s.data.toList.take k).flatMap form).length + 4 ≤ 140737488355328 := by have := ROOM.out; simp only [List.length_cons]; omega
    have R1 := Lib.hid hroom1
    clear hroom1 hfl
    by_cases hlt : k < s.size
    · go_wp2_with (go_at_call 96; refine (addForm_any w.heap.size _ _ s[k] _ hown hszr R1.out).mono ?_; rintro e w' ⟨v', rfl, hown', hb'⟩)
      go_roundw
      case rel => exact ⟨k + 1, by omega, by go_num, by rw [← quote_rel hlt]; exact hown', hb.trans hb'⟩
      case measure => simp [intOf]; omega
    · obtain rfl : k = s.size := by omega
      go_wp2_with (at_builtin; refine app_bytes rfl _ _ rfl w.heap.size _ _ rfl (hown.alloc _) ⟨wr.heap.size, 0, none⟩ 1 1 [34] rfl rfl (cells_new wr _ _ _ rfl) (by have := R1.out; omega) (by simp; omega) ?_; intro v3 w3 hown3 hb3; have hcv := conv_own hown3)
      go_ret
      refine ⟨?_, (hb.alloc hszr _).trans hb3⟩
      have e : s.data.toList.take s.size = s.data.toList := List.take_of_length_le (by rw [Array.length_toList]; exact Nat.le_refl _)
      rw [e]
      rfl
end Go.Proofs.YtjjlofaejpnnnaaGreatDoor
namespace Go.Proofs.YtjjlofaejpnnnaaGreatDoor
open Go Go.RowKit
set_option linter.unusedVariables false
/-- not bytes -/
def not8 (o : Obj) : Bool := match o with
  | .cells _ t _ => t != 5
  | _ => true
/-- what is kept by one who writes on the page: all below B, and all that isn't bytes, but the page's box -/
structure KeepP (gp B : Nat) (X X' : World) : Prop where
  os : X'.os = X.os
  tape : X'.tape = X.tape
  output : X'.output = X.output
  size : X.heap.size ≤ X'.heap.size
  same : ∀ (g : Nat) (o : Obj), g ≠ gp → X.heap[g]? = some o → g < B ∨ not8 o = true → X'.heap[g]? = some o
theorem KeepP.refl (gp B : Nat) (X : World) : KeepP gp B X X := ⟨rfl, rfl, rfl, Nat.le_refl _, fun _ _ _ h _ => h⟩
theorem KeepP.trans {gp B : Nat} {X Y Z : World} (h : KeepP gp B X Y) (h' : KeepP gp B Y Z) : KeepP gp B X Z := ⟨h'.os.trans h.os, h'.tape.trans h.tape, h'.output.trans h.output, Nat.le_trans h.size h'.size, fun g o h1 h2 h3 => h'.same g o h1 (h.same g o h1 h2 h3) h3⟩
theorem KeepP.after {gp B : Nat} {X Y : World} (h : Below X.heap.size X Y) : KeepP gp B X Y := ⟨h.os, h.tape, h.output, h.size, fun g o _ h2 _ => (h.block g (Array.getElem?_eq_some_iff.1 h2).1).trans h2⟩
theorem KeepP.below {gp B : Nat} {X Y : World} (h : KeepP gp B X Y) (hl : gp ≤ B) (hs : gp ≤ X.heap.size) : Below gp X Y := ⟨h.os, h.tape, h.output, h.size, fun g hg => by
  have e : X.heap[g]? = some X.heap[g] := Array.getElem?_eq_getElem (by omega)
  rw [e]
  exact h.same g _ (by omega) e (.inl (by omega))⟩
theorem KeepP.blk {gp B g : Nat} {X Y : World} {t : TypeId} {cs : Array Value} (h : KeepP gp B X Y) (hb : Blk X g t cs) (h2 : g ≠ gp) (ht : (t != 5) = true := by rfl) : Blk Y g t cs := h.same g _ h2 hb (.inr ht)
theorem KeepP.set {gp B i : Nat} {X : World} {u : Value} : KeepP gp B X (X.setCell ⟨gp, i, none⟩ u) := by
  have hb := (Below.refl gp X).setCell (p := ⟨gp, i, none⟩) (Nat.le_refl _) u
  exact ⟨hb.os, hb.tape, hb.output, hb.size, fun g o h1 h2 _ => (Below.heap_setCell X ⟨gp, i, none⟩ u g h1).trans h2⟩
theorem ownB_cells {X : World} {B : Nat} {v : Value} {L : List UInt8} (h : ownB X B v L) : ∀ k, v.ownBlock = some k → B ≤ k ∧ ∃ cs fr, X.heap[k]? = some (.cells cs 5 fr) := by
  intro k hk
  rcases h.2 with ⟨rfl, _⟩ | ⟨g, cap, cur, rfl, hb, hg, _⟩
  · cases hk
  · obtain rfl : g = k := Option.some.inj hk
    exact ⟨hb, cur, _, hg⟩
theorem KeepP.grown {gp B : Nat} {X Y : World} {v : Value} {L : List UInt8} (ho : ownB X B v L) (hg : X.grownBy Y v.ownBlock) : KeepP gp B X Y :=
  ⟨hg.os, hg.tape, hg.output, hg.size, fun g o _ h2 h3 => (hg.block g (Array.getElem?_eq_some_iff.1 h2).1 (fun he => by
    obtain ⟨h4, cs, fr, h5⟩ := ownB_cells ho g he.symm
    rcases h3 with h3 | h3
    · omega
    · rw [h5] at h2
      obtain rfl := Option.some.inj h2
      simp [not8] at h3)).trans h2⟩
/-- the page's box, and its bytes -/
structure PB (gp B : Nat) (L : List UInt8) (v : Value) (X : World) : Prop where
  t : Blk X gp 65 #[v]
  o : ownB X B v L
  lt : gp < B
  sz : B ≤ X.heap.size
section
variable {gp B : Nat} {L L' : List UInt8} {v v' : Value} {X Y : World}
theorem PB.after (h : PB gp B L v X) (hb : Below X.heap.size X Y) : PB gp B L v Y := ⟨h.t.after hb, h.o.below hb, h.lt, Nat.le_trans h.sz hb.size⟩
theorem ownB_set {g : Nat} {u : Value} (h : ownB X B v L) (hg : g < B) : ownB (X.setCell ⟨g, 0, none⟩ u) B v L := by
  refine ⟨h.1, ?_⟩
  rcases h.2 with hn | ⟨k, cap, cur, rfl, hb, hgg, rest⟩
  · exact .inl hn
  · exact .inr ⟨k, cap, cur, rfl, hb, (Below.heap_setCell X ⟨g, 0, none⟩ u k (by show k ≠ g; omega)).trans hgg, rest⟩
theorem PB.put (h : PB gp B L v X) (hb : X.grownBy Y v.ownBlock) (ho : ownB Y B v' L') : PB gp B L' v' (Y.setCell ⟨gp, 0, none⟩ v') := by
  have hlt := h.lt
  have ht : Blk Y gp 65 #[v] := h.t.grown hb (fun he => by have := (ownB_cells h.o gp he.symm).1; omega)
  refine ⟨?_, ownB_set ho h.lt, h.lt, ?_⟩
  · have := ht.set_ 0 v'
    simpa using this
  · have h1 := ((Below.refl gp Y).setCell (p := ⟨gp, 0, none⟩) (Nat.le_refl _) v').size
    have h2 := h.sz
    have h3 := hb.size
    omega
theorem PB.box (h : PB gp B L v X) (hb : X.grownBy Y v.ownBlock) : Blk Y gp 65 #[v] := h.t.grown hb (fun he => by have := (ownB_cells h.o gp he.symm).1; have := h.lt; omega)
theorem PB.alloc (h : PB gp B L v X) (o : Obj) : PB gp B L v (X.alloc o) := h.after ((Below.refl _ _).alloc (Nat.le_refl _) o)
end
/-- append of bytes that lie in memory, and of a string's: what else is kept -/
theorem app_bytesG {w : World} {ops : Array Oper} {rest : List Oper} {o : Oper} {a : Act} {Q : Exit → Act → World → Prop} (hgd : o.guard = none) (s x : Operand)
    (ho : o.op = .call { callee := .builtin .append, args := #[s, x], argTypes := #[63, 63] })
    (B : Nat) (v : Value) (l : List UInt8) (hs : a.eval s = v) (hown : ownB w B v l) (ad : Addr) (m c : Nat) (news : List UInt8) (hx : a.eval x = .slice (some ad) m c) (hl : news.length = m)
    (hnews : ∀ j u, (news.map enc)[j]? = some u → w.cell? (ad.add j) = some u) (hroom : l.length + m ≤ 140737488355328) (hB : B ≤ w.heap.size)
    (h : ∀ v' w', ownB w' B v' (l ++ news) → w.grownBy w' v.ownBlock → wpList Tryz.prog ops Q rest (a.put o.dst v') w') : wpList Tryz.prog ops Q (o :: rest) a w := by
  obtain ⟨i0, hi, hz0, hz1, hz2⟩ := info_parts byteInfo
  refine wpList_append_own w hgd s x _ ho B 5 i0 (.int .u8 0) 1 1 Tryz.underlying63 hi hz0 hz1 hz2 rfl (by decide) v l.length (l.map enc) hs hown ad m c (news.map enc) hx (by simp [hl]) hnews (enc_one _) (by unfold maxLen; omega) (by omega) hB ?_
  intro v' w' hown' hg _
  refine h v' w' ?_ hg
  unfold ownB
  rw [List.length_append, List.map_append, hl]
  exact hown'
theorem app_strG {w : World} {ops : Array Oper} {rest : List Oper} {o : Oper} {a : Act} {Q : Exit → Act → World → Prop} (hgd : o.guard = none) (s x : Operand)
    (ho : o.op = .call { callee := .builtin .append, args := #[s, x], argTypes := #[63, 9] })
    (B : Nat) (v : Value) (l : List UInt8) (hs : a.eval s = v) (hown : ownB w B v l) (t : ByteArray) (hx : a.eval x = .string t) (hroom : l.length + t.size ≤ 140737488355328) (hB : B ≤ w.heap.size)
    (h : ∀ v' w', ownB w' B v' (l ++ t.data.toList) → w.grownBy w' v.ownBlock → wpList Tryz.prog ops Q rest (a.put o.dst v') w') : wpList Tryz.prog ops Q (o :: rest) a w := by
  obtain ⟨i0, hi, hz0, hz1, hz2⟩ := info_parts byteInfo
  refine Lib.wpList_append_own_string w hgd s x _ _ ho B 5 i0 Tryz.underlying63 Tryz.underlying9 hi hz0 hz1 hz2 v l.length (l.map enc) hs hown t hx (by unfold maxLen; omega) (by omega) hB ?_
  intro v' w' hown' hg _
  refine h v' w' ?_ hg
  unfold ownB
  rw [List.length_append, List.map_append, Array.length_toList]
  exact hown'
def LineP (gp B : Nat) (X : World) (L' : List UInt8) (e : Ending) (X' : World) : Prop := e = .returned (.tuple #[]) ∧ (∃ v', PB gp B L' v' X') ∧ KeepP gp B X X'
theorem own_len {X : World} {B : Nat} {v : Value} {L : List UInt8} (h : ownB X B v L) : ∃ A c, v = .slice A L.length c ∧ L.length ≤ 9223372036854775807 := by
  rcases h.2 with ⟨rfl, h0⟩ | ⟨g, cap, cur, rfl, hbg, hgg, hle, hmax, _⟩
  · exact ⟨none, 0, by rw [h0], by omega⟩
  · exact ⟨_, _, rfl, by unfold maxLen at hmax; omega⟩
theorem own_sl {X : World} {B : Nat} {v : Value} {L : List UInt8} (h : ownB X B v L) : ∃ A m c, v = .slice A m c := let ⟨A, c, e, _⟩ := own_len h; ⟨A, _, c, e⟩
theorem long_any (X : World) (gp B : Nat) (L : List UInt8) (v : Value) (h : PB gp B L v X) : Calls Tryz.prog 29 #[.pointer (some ⟨gp, 0, none⟩)] X fun e X' => e = .returned (.bool (decide (1048576 < L.length))) ∧ X = X' := by
  obtain ⟨A, c, rfl, hm⟩ := own_len h.o
  have cx := (h.t.cell 0).trans (show _ = some (.slice A L.length c) from rfl)
  by_cases hl : 1048576 < L.length
  · have h1 : decide (1048576 < L.length) = true := by simpa using hl
    have h2 : (1048576 : Int) < (L.length : Int) := by omega
    rw [h1]
    clear h1 h
    go_enter Tryz.func29, Tryz.ntmps29
    go_wp2_with fail
    go_ret
    exact ⟨rfl, rfl⟩
  · have h1 : decide (1048576 < L.length) = false := by simpa using hl
    have h2 : ¬ (1048576 : Int) < (L.length : Int) := by omega
    rw [h1]
    clear h1 h
    go_enter Tryz.func29, Tryz.ntmps29
    go_wp2_with fail
    go_ret
    exact ⟨rfl, rfl⟩
set_option maxRecDepth 20000 in
set_option maxHeartbeats 3200000 in
theorem line_any (X : World) (gp B : Nat) (L : List UInt8) (v : Value) (k : Nat) (s : ByteArray) (h : PB gp B L v X) (hk : k ≤ 64) (hs : s.size ≤ 70368744177000) :
    Calls Tryz.prog 24 #[.pointer (some ⟨gp, 0, none⟩), .int .i64 k, .string s] X (LineP gp B X (pageA L (bl k ++ s.data.toList ++ [10]))) := by
  have HP := Lib.hid h
  have HLo := Lib.hid (long_any X gp B L v h)
  have hlt := h.lt
  clear h
  by_cases hl : 1048576 < L.length
  · have h1 : decide (1048576 < L.length) = true := by simpa using hl
    rw [h1] at HLo
    have HA : Hid (pageA L (bl k ++ s.data.toList ++ [10]) = L) := Lib.hid (by unfold pageA; rw [if_pos hl])
    rw [HA.out]
    clear h1 hl
    go_enter Tryz.func24, Tryz.ntmps24
    go_wp2_with (go_at_call 29; refine HLo.out.mono ?_; rintro e X2 ⟨rfl, rfl⟩)
    go_end0
    exact ⟨rfl, ⟨_, HP.out⟩, KeepP.refl _ _ _⟩
  · have h1 : decide (1048576 < L.length) = false := by simpa using hl
    rw [h1] at HLo
    have HA : Hid (pageA L (bl k ++ s.data.toList ++ [10]) = L ++ bl k ++ s.data.toList ++ [10]) := Lib.hid (by unfold pageA; rw [if_neg hl]; simp only [List.append_assoc])
    rw [HA.out]
    clear h1
    have hLl : L.length ≤ 1048576 := by omega
    have HP0 : Hid (PB gp B (L ++ bl 0) v X) := Lib.hid (by rw [show bl 0 = [] from rfl, List.append_nil]; exact HP.out)
    go_enter Tryz.func24, Tryz.ntmps24
    go_wp2_with (go_at_call 29; refine HLo.out.mono ?_; rintro e X2 ⟨rfl, rfl⟩)
    go_loopw [9] (fun i wr => ∃ (j : Nat), j ≤ k ∧ i = .int .i64 j ∧ Hid (∃ v, PB gp B (L ++ bl j) v wr) ∧ Hid (KeepP gp B X wr)) (fun i _ => k - (intOf i).toNat)
    case atStart => exact ⟨0, Nat.zero_le _, rfl, Lib.hid ⟨_, HP0.out⟩, Lib.hid (KeepP.refl _ _ _)⟩
    case round =>
      rename World => wo
      obtain ⟨j, hj, rfl, HV, HK⟩ := hrel
      obtain ⟨v1, hv1⟩ := HV.out
      have cx := (hv1.t.cell 0).trans (show _ = some v1 from rfl)
      have HP1 := Lib.hid hv1
      clear hv1
      by_cases hjk : j < k
      · have hsz := HP1.out.sz
        go_wp2_with (at_builtin; go_must (refine app_bytesG rfl (.tmp 15) (.tmp 16) rfl B v1 (L ++ bl j) rfl (HP1.out.o.alloc _) ⟨wo.heap.size, 0, none⟩ 1 1 [32] rfl rfl (cells_new wo _ _ _ rfl) (by rw [List.length_append, bl_len]; omega) (by simp; omega) ?_; intro v2 w2 hown2 hb2; obtain ⟨A2, m2, c2, rfl⟩ := own_sl hown2; have HP2 := Lib.hid ((HP1.out.alloc (.cells #[.int .u8 32] 5)).put hb2 hown2); have HK2 : Hid (KeepP gp B X (w2.setCell ⟨gp, 0, none⟩ (.slice A2 m2 c2))) := Lib.hid (HK.out.trans ((KeepP.after ((Below.refl _ _).alloc (Nat.le_refl _) _)).trans ((KeepP.grown (HP1.out.o.alloc _) hb2).trans KeepP.set))); have ht2 := (HP1.out.alloc (.cells #[.int .u8 32] 5)).box hb2; have cz := (ht2.cell 0).trans (show _ = some v1 from rfl); have fz := ht2.frozen 0; clear hown2 hb2 ht2))
        go_roundw
        case rel => exact ⟨j + 1, by omega, by go_num, Lib.hid ⟨_, by rw [bl_succ, ← List.append_assoc]; exact HP2.out⟩, HK2⟩
        case measure => simp [intOf]; omega
      · obtain rfl : j = k := by omega
        have hsz := HP1.out.sz
        go_upto_region 6 with (at_builtin; go_must (refine app_strG rfl (.tmp 25) (.tmp 26) rfl B v1 (L ++ bl j) rfl HP1.out.o s rfl (by rw [List.length_append, bl_len]; omega) hsz ?_; intro v2 w2 hown2 hb2; obtain ⟨A2, m2, c2, rfl⟩ := own_sl hown2; have HP2 := Lib.hid (HP1.out.put hb2 hown2); have HK2 : Hid (KeepP gp B X (w2.setCell ⟨gp, 0, none⟩ (.slice A2 m2 c2))) := Lib.hid (HK.out.trans ((KeepP.grown HP1.out.o hb2).trans KeepP.set)); have ht2 := HP1.out.box hb2; have cz := (ht2.cell 0).trans (show _ = some v1 from rfl); have fz := ht2.frozen 0; clear hown2 hb2 ht2))
        generalize w2.setCell ⟨gp, 0, none⟩ (.slice A2 m2 c2) = w3 at HP2 HK2 ⊢
        have cx3 := (HP2.out.t.cell 0).trans (show _ = some (.slice A2 m2 c2) from rfl)
        have hsz3 := HP2.out.sz
        have hll : (L ++ bl j ++ s.data.toList).length = L.length + j + s.size := by simp only [List.length_append, bl_len, Array.length_toList]; rfl
        go_wp2_with (at_builtin; go_must (refine app_bytesG rfl (.tmp 34) (.tmp 35) rfl B (.slice A2 m2 c2) (L ++ bl j ++ s.data.toList) rfl (HP2.out.o.alloc _) ⟨w3.heap.size, 0, none⟩ 1 1 [10] rfl rfl (cells_new w3 _ _ _ rfl) (by omega) (by simp; omega) ?_; intro v4 w4 hown4 hb4; obtain ⟨A4, m4, c4, rfl⟩ := own_sl hown4; have HP4 := Lib.hid ((HP2.out.alloc (.cells #[.int .u8 10] 5)).put hb4 hown4); have HK4 : Hid (KeepP gp B X (w4.setCell ⟨gp, 0, none⟩ (.slice A4 m4 c4))) := Lib.hid (HK2.out.trans ((KeepP.after ((Below.refl _ _).alloc (Nat.le_refl _) _)).trans ((KeepP.grown (HP2.out.o.alloc _) hb4).trans KeepP.set))); have ht4 := (HP2.out.alloc (.cells #[.int .u8 10] 5)).box hb4; have cz4 := (ht4.cell 0).trans (show _ = some (.slice A2 m2 c2) from rfl); have fz4 := ht4.frozen 0; clear hown4 hb4 ht4))
        go_end0
        exact ⟨rfl, ⟨_, HP4.out⟩, HK4.out⟩
end Go.Proofs.YtjjlofaejpnnnaaGreatDoor
namespace Go.Proofs.YtjjlofaejpnnnaaGreatDoor
open Go Go.RowKit
set_option linter.unusedVariables false
/-- the library's table of powers of ten -/
def TabEnv (w : World) : Prop := Lib.TabIs Tryz.prog w "internal/strconv.uint64pow10" .u64 Lib.pow10Tab
theorem TabEnv.below {w w' : World} (h : TabEnv w) (hb : Below w.heap.size w w') : TabEnv w' := var?_below hb gTab (var_lt gTab h) h
set_option maxHeartbeats 400000 in
theorem showN_any (n : Int) (w : World) (h0 : -9223372036854775808 ≤ n) (h1 : n ≤ 9223372036854775807) (hE : TabEnv w) : Calls Tryz.prog 60 #[.int .i64 n] w (Tells w (Lib.itoa n)) := by
  have H : Hid (Calls Tryz.prog 95 #[.int .i64 n, .int .i64 10] w (Tells w (Lib.itoa n))) :=
    (Tryz.strconv_FormatInt_10 n h0 h1 w hE).mono fun e w' ⟨he, k, os, hw⟩ => ⟨he, by rw [hw]; exact below_grown_sl _ _ _ _ (Nat.le_refl _)⟩
  clear h0 h1 hE
  go_enter Tryz.func60, Tryz.ntmps60
  go_wp2_with (go_at_call 95; refine H.out.mono ?_; rintro e w' ⟨rfl, hb⟩)
  go_ret
  exact ⟨rfl, hb⟩
theorem show_s (n : Int) (w : World) (h0 : -9223372036854775808 ≤ n) (h1 : n ≤ 9223372036854775807) (hE : TabEnv w) : Calls Tryz.prog 25 #[.int .i64 n] w (Tells w (Lib.itoa n)) := by
  have H := Lib.hid (showN_any n w h0 h1 hE)
  clear h0 h1 hE
  go_enter Tryz.func25, Tryz.ntmps25
  go_wp2_with (go_at_call 60; refine H.out.mono ?_; rintro e w' ⟨rfl, hb⟩)
  go_ret
  exact ⟨rfl, hb⟩
set_option maxHeartbeats 400000 in
theorem snode1_any (w : World) (hi : Nat) (next id : Int) (b o n c : Nat) (nds : List Nd) (p1 p2 : Nat) (k : Nat) (nd : Nd) (L : Leaf)
    (h1 : w.cell? ⟨p1, 0, none⟩ = some (.int .i64 id)) (h2 : w.cell? ⟨p2, 1, none⟩ = some (.slice (some ⟨b, o, none⟩) n c)) (hk : k < n) (hnc : n ≤ c) (hc : c ≤ maxLen)
    (hat : w.cell? ⟨b, o + k * 7, none⟩ = some (.int .i64 nd.id)) :
    Calls Tryz.prog 63 #[.int .i64 k, .pointer (some ⟨p1, 0, none⟩), .pointer (some ⟨p2, 0, none⟩)] w fun e w' => e = .returned (.int .i64 (Lib.compareInt id nd.id)) ∧ ∃ q, w' = w.drewN q := by
  unfold maxLen at hc
  go_enter Tryz.func63, Tryz.ntmps63
  go_wp2_with fail
  go_quiet ((go_at_call 49; exact Calls.quiet_of_same (Tryz.cmp_Compare_int _ _ _)))
  go_wp2
  go_ret
  exact ⟨rfl, _, rfl⟩
set_option maxHeartbeats 1600000 in
theorem sfind_any (w : World) (hi : Nat) (next id : Int) (A : Option Addr) (n c : Nat) (nds : List Nd) (p1 p2 : Nat) (h : NodesIn w 0 hi A n c nds) (hr : Rise nds) (hn : n ≤ 4096)
    (h1 : w.cell? ⟨p1, 0, none⟩ = some (.int .i64 id)) (h2 : w.cell? ⟨p2, 1, none⟩ = some (.slice A n c)) :
    Calls Tryz.prog 62 #[.int .i64 n, .func (.func 63) #[] #[.pointer (some ⟨p1, 0, none⟩), .pointer (some ⟨p2, 0, none⟩)]] w (DrewV w (ixV nds id)) := by
  have hc := h.2.2.1
  have hnc := h.2.1
  have hl := Lib.hid h.1
  have C1 : ∀ (q k : Nat) (b o : Nat) (nd : Nd) (L : Leaf), A = some ⟨b, o, none⟩ → k < n → NodeAt w b (o + k * 7) nd L → Calls Tryz.prog 63 #[.int .i64 k, .pointer (some ⟨p1, 0, none⟩), .pointer (some ⟨p2, 0, none⟩)] (w.drewN q) fun e w' => e = .returned (.int .i64 (Lib.compareInt id nd.id)) ∧ ∃ q', w' = w.drewN q' := by
    intro q k b o nd L hA hk hat
    subst hA
    refine (snode1_any (w.drewN q) hi next id b o n c nds p1 p2 k nd L (by simpa using h1) (by simpa using h2) hk hnc hc (by simpa using hat.c0)).mono ?_
    rintro e w' ⟨he, q', hq⟩
    exact ⟨he, q + q', by rw [hq, World.drewN_drewN]⟩
  have HC := Lib.hid C1
  have H1 := Lib.hid h1
  have H2 := Lib.hid h2
  have hc63 : c ≤ 9223372036854775807 := by unfold maxLen at hc; omega
  clear C1 h1 h2 hc
  go_enter Tryz.func62, Tryz.ntmps62
  go_wp2_with fail
  go_loopw [4, 6] (fun x y wr => FindRel nds id w n x y wr) (fun x y _ => (intOf y - intOf x).toNat)
  case atStart => exact ⟨0, n, 0, Nat.le_refl _, rfl, rfl, Half.start nds id n hl.out, rfl⟩
  case round =>
    obtain ⟨l, m, q, hm, rfl, rfl, H, rfl⟩ := hrel
    have hle := H.le
    by_cases hlt : l < m
    · obtain ⟨b, o, nd, L, rfl, _, hb, hnd, hat, _⟩ := h.at_ (i := (l + m) / 2) (by omega)
      have hX := HC.out q ((l + m) / 2) b o nd L rfl (by omega) hat
      rw [show (((l + m) / 2 : Nat) : Int) = ((l : Int) + (m : Int)) / 2 from by omega] at hX
      have HX := Lib.hid hX
      clear hX
      by_cases hx : nd.id < id
      · have HU := Lib.hid (H.up hr hnd (by omega) hx)
        have d1 := (cmp_gt hx).1
        clear hx hnd hat
        go_wp2_with (go_at_call 63; refine HX.out.mono ?_; rintro e w' ⟨rfl, q', rfl⟩)
        go_roundw
        case rel => exact ⟨(l + m) / 2 + 1, m, q', hm, by go_num, rfl, HU.out, rfl⟩
        case measure => simp [intOf]; omega
      · have HU := Lib.hid (H.down hr hnd (by omega) (by omega))
        have d1 := cmp_le (x := id) (y := nd.id) (by omega)
        clear hx hnd hat
        go_wp2_with (go_at_call 63; refine HX.out.mono ?_; rintro e w' ⟨rfl, q', rfl⟩)
        go_roundw
        case rel => exact ⟨l, (l + m) / 2, q', by omega, rfl, by go_num, HU.out, rfl⟩
        case measure => simp [intOf]; omega
    · have he : m = l := by omega
      rw [he] at H
      clear he
      have hl' := hl.out
      have HR := Lib.hid (H.rank (by omega))
      by_cases hk : l < n
      · obtain ⟨b, o, nd, L, rfl, _, hb, hnd, hat, _⟩ := h.at_ (i := l) hk
        have HX := Lib.hid (HC.out q l b o nd L rfl (by omega) hat)
        have hS := (ixOf_none_some H hr).2 nd hnd
        by_cases hx : nd.id = id
        · have HS := Lib.hid (hS.1 hx)
          have d1 := cmp_eq hx.symm
          clear hx hS hnd hat hl'
          go_wp2_with (go_at_call 63; refine HX.out.mono ?_; rintro e w' ⟨rfl, q', rfl⟩)
          go_ret2
          unfold ixV
          rw [HS.out, HR.out]
          exact drew_v rfl
        · have HS := Lib.hid (hS.2 hx)
          have d1 := cmp_ne (x := id) (y := nd.id) (fun e => hx e.symm)
          clear hx hS hnd hat hl'
          go_wp2_with (go_at_call 63; refine HX.out.mono ?_; rintro e w' ⟨rfl, q', rfl⟩)
          go_ret2
          unfold ixV
          rw [HS.out, HR.out]
          exact drew_v rfl
      · have HS := Lib.hid ((ixOf_none_some H hr).1 (by omega))
        clear hl'
        go_wp2_with fail
        go_ret2
        unfold ixV
        rw [HS.out, HR.out]
        exact drew_v rfl
/-- the node with a number, in its place -/
def NodeIs (w : World) (b o i : Nat) (e : Ending) (w' : World) : Prop := e = .returned (.pointer (some ⟨b, o + i * 7, none⟩)) ∧ Below w.heap.size w w'
set_option maxHeartbeats 1600000 in
theorem snode_any (w : World) (hi : Nat) (next id : Int) (A : Option Addr) (n c : Nat) (nds : List Nd) (h : NodesIn w 0 hi A n c nds) (hh : hi ≤ w.heap.size) (hr : Rise nds) (hn : n ≤ 4096) (i : Nat) (nd : Nd) (hnd : nds[i]? = some nd) (hid : nd.id = id) (b o : Nat) (hA : A = some ⟨b, o, none⟩) :
    Calls Tryz.prog 28 #[.agg #[.int .i64 next, .slice A n c], .int .i64 id] w (NodeIs w b o i) := by
  have hc := h.2.2.1
  have hnc := h.2.1
  unfold maxLen at hc
  have hin : i < n := by rw [← h.1]; exact (List.getElem?_eq_some_iff.1 hnd).1
  subst hA
  have hix : ixV nds id = .tuple #[.int .i64 i, .bool true] := by
    unfold ixV
    rw [← hid, (rank_fast hr hnd).1, (rank_fast hr hnd).2]
  have HB0 : Hid (Below w.heap.size w ((w.alloc (.cells #[.int .i64 next, .slice (some ⟨b, o, none⟩) n c] 25)).alloc (.cells #[.int .i64 id] 3))) := Lib.hid (((Below.refl _ _).alloc (Nat.le_refl _) _).alloc (by simp) _)
  have HM0 : Hid (Blk ((w.alloc (.cells #[.int .i64 next, .slice (some ⟨b, o, none⟩) n c] 25)).alloc (.cells #[.int .i64 id] 3)) w.heap.size 25 #[.int .i64 next, .slice (some ⟨b, o, none⟩) n c]) := Lib.hid ((Blk.new _ _ _).alloc _)
  have HI0 : Hid (Blk ((w.alloc (.cells #[.int .i64 next, .slice (some ⟨b, o, none⟩) n c] 25)).alloc (.cells #[.int .i64 id] 3)) (w.heap.size + 1) 3 #[.int .i64 id]) := Lib.hid (Blk.new' (by simp))
  have HND := Lib.hid hnd
  have HID := Lib.hid hid
  have HF := Lib.hid (sfind_any ((w.alloc (.cells #[.int .i64 next, .slice (some ⟨b, o, none⟩) n c] 25)).alloc (.cells #[.int .i64 id] 3)) hi next id (some ⟨b, o, none⟩) n c nds (w.heap.size + 1) w.heap.size (h.below (HB0.out.mono hh)) hr hn ((HI0.out.cell 0).trans rfl) ((HM0.out.cell 1).trans rfl))
  rw [hix] at HF
  clear h hix hnd hid
  go_enter Tryz.func28, Tryz.ntmps28
  go_upto_region 1 with (fail)
  generalize (w.alloc (.cells #[.int .i64 next, .slice (some ⟨b, o, none⟩) n c] 25)).alloc (.cells #[.int .i64 id] 3) = W1 at HB0 HM0 HF ⊢
  have cx := (HM0.out.cell 1).trans (show _ = some (.slice (some ⟨b, o, none⟩) n c) from rfl)
  go_wp2_with (go_at_call 62; refine HF.out.mono ?_; rintro e w' ⟨rfl, q', rfl⟩)
  go_ret
  exact ⟨rfl, below_drewN HB0.out _⟩
end Go.Proofs.YtjjlofaejpnnnaaGreatDoor

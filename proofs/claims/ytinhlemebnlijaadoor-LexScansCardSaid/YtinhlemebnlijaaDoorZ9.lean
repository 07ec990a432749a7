/-
  WALK of the law LexScans.
-/
import Derived.Test.YtinhlemebnlijaaDoorZ8
import Derived.Test.YtinhlemebnlijaaDoorZ1
import Derived.Test.YtinhlemebnlijaaDoorY14
import Derived.Test.YtinhlemebnlijaaDoorY15
import Derived.Deep.MidRow
namespace Go.Proofs.YtinhlemebnlijaaDoor
open Go Go.RowKit
set_option linter.unusedVariables false
theorem scanT_count : ∀ (d p : Nat) (r : List UInt8) (l : List Tok), r.length ≤ d → scanT p r = (some l, 0) → l.length ≤ r.length := by
  intro d
  induction d with
  | zero =>
    intro p r l hd h
    obtain rfl : r = [] := List.length_eq_zero_iff.1 (by omega)
    rw [scanT_nil] at h
    simp only [Prod.mk.injEq, Option.some.injEq, and_true] at h
    subst h
    simp
  | succ d ih =>
    intro p r l hd h
    rcases scanT_ways r with rfl | ⟨c, t, rfl, hc⟩ | ⟨c, t, k, n, rfl, hc, hk⟩ | ⟨c, t, n, rfl, hc, hk⟩
    · rw [scanT_nil] at h
      simp only [Prod.mk.injEq, Option.some.injEq, and_true] at h
      subst h
      simp
    · rw [scanT_blank hc] at h
      have := ih _ _ _ (by simp at hd; omega) h
      rw [List.length_cons]
      omega
    · have hl := scanT_dec hk
      rw [scanT_tok hc hk] at h
      rcases hs : scanT (p + n) ((c :: t).drop n) with ⟨o, j⟩
      rw [hs] at h
      cases o with
      | none => simp [ahd] at h
      | some l' =>
        have := scanT_zero _ _ _ _ _ (Nat.le_refl _) hs
        subst this
        simp only [ahd, Prod.mk.injEq, Option.some.injEq, and_true] at h
        subst h
        have := ih _ _ _ (by omega) hs
        rw [List.length_cons]
        omega
    · rw [scanT_bad hc hk] at h; simp at h
theorem scanR_count {S : List UInt8} {l : List Tok} {n : Nat} {c : Int} (h : scanR S = (l, n, c)) : l.length ≤ 4096 := by
  rcases scanR_cases S with ⟨_, h1⟩ | ⟨h4, m, h2, h1⟩ | ⟨h4, m, h2, h1⟩
  all_goals
    rw [h1] at h
    simp only [Prod.mk.injEq] at h
    obtain ⟨rfl, _⟩ := h
  · simp
  · have := scanT_count _ _ _ _ (Nat.le_refl _) h2; omega
  · simp
/-- Scan's answer: a list of the call's own, its length named -/
def ScanN (w : World) (l : List Tok) (N : Nat) (n c : Int) (e : Ending) (w' : World) : Prop :=
  ∃ A k, e = .returned (.tuple #[.slice A N k, .int .i64 n, .int .i64 c]) ∧ OwnT w' w.heap.size (.slice A N k) l ∧ Below w.heap.size w w'
theorem scanN_of {w w' : World} {r : List Tok × Nat × Int} {N : Nat} {e : Ending} (hN : r.1.length = N) (h : ScanPost w r e w') : ScanN w r.1 N (r.2.1 : Nat) r.2.2 e w' := by
  obtain ⟨v, rfl, ho, hb⟩ := h
  obtain ⟨A, k, rfl⟩ := own_form ho
  subst hN
  exact ⟨A, k, rfl, ho, hb⟩
theorem ownRN {w : World} {B N : Nat} {v : Value} {l : List Tok} (hN : l.length = N) (h : OwnT w B v l) : w.ownsRow B 30 4 v N (toksCells l) := by subst hN; exact h
theorem ownT_of {w : World} {B N : Nat} {v : Value} {l : List Tok} (hN : l.length = N) (h : w.ownsRow B 30 4 v N (toksCells l)) : OwnT w B v l := by subst hN; exact h
theorem other_row {w : World} {B s n : Nat} {e : TypeId} {v v' : Value} {xs : List Value} (h : w.ownsRow B e s v n xs) (lim : ∀ g, v'.ownBlock = some g → g < B) : v.ownBlock = none ∨ v.ownBlock ≠ v'.ownBlock := by
  rcases hv : v.ownBlock with _ | g
  · exact .inl rfl
  · refine .inr fun h' => ?_
    have h1 := (World.ownsRow.lt h g hv).1
    have := lim g h'.symm
    omega
/-- an element is stored over -/
theorem spoil_row {w W : World} {B g N c o : Nat} {xs : List Value} (h : w.ownsRow B 30 4 (.slice (some ⟨g, 0, none⟩) N c) N xs) (x y z u : Value) :
    (∃ xs', (w.setCells g o [x, y, z, u]).ownsRow B 30 4 (.slice (some ⟨g, 0, none⟩) N c) N xs') ∧
    (∀ B' v' n' ys, w.ownsRow B' 30 4 v' n' ys → (v'.ownBlock = none ∨ v'.ownBlock ≠ some g) → (w.setCells g o [x, y, z, u]).ownsRow B' 30 4 v' n' ys) ∧
    (Below B W w → Below B W (w.setCells g o [x, y, z, u])) := by
  have hg : B ≤ g := (World.ownsRow.lt h g rfl).1
  have h1 := World.ownsRow.stored h o x
  have h2 := World.ownsRow.stored h1.1 (o + 1) y
  have h3 := World.ownsRow.stored h2.1 (o + 1 + 1) z
  have h4 := World.ownsRow.stored h3.1 (o + 1 + 1 + 1) u
  refine ⟨⟨_, h4.1⟩, fun B' v' n' ys ho hne => ?_, fun hb => ?_⟩
  · exact (((ho.kept h1.2 hne).kept h2.2 hne).kept h3.2 hne).kept h4.2 hne
  · exact (((hb.setCell (p := ⟨g, o, none⟩) hg x).setCell (p := ⟨g, o + 1, none⟩) hg y).setCell (p := ⟨g, o + 1 + 1, none⟩) hg z).setCell (p := ⟨g, o + 1 + 1 + 1, none⟩) hg u
theorem own_there {w : World} {B g N c k : Nat} {xs : List Value} (h : w.ownsRow B 30 4 (.slice (some ⟨g, 0, none⟩) N c) N xs) (hk : k < N) : w.there g (k * 4) 4 := fun j hj =>
  ⟨by rw [World.ownsRow.cellAt h (k * 4 + j) (by omega), List.getElem?_eq_getElem (by rw [h.1]; omega)]; rfl, World.ownsRow.frozenAt h _⟩
theorem own_some {w : World} {B N c : Nat} {A : Option Addr} {xs : List Value} (h : w.ownsRow B 30 4 (.slice A N c) N xs) (hk : 0 < N) : ∃ g, A = some ⟨g, 0, none⟩ := by
  rcases h.2 with ⟨hv, hn⟩ | ⟨g, cap, cur, hv, _⟩
  · omega
  · injection hv with h1; exact ⟨g, h1⟩
theorem app_raw {X : World} {ops : Array Oper} {rest : List Oper} {o : Oper} {a : Act} {Q : Exit → Act → World → Prop} (hgd : o.guard = none) (s x : Operand)
    (ho : o.op = .call { callee := .builtin .append, args := #[s, x], argTypes := #[22, 22] })
    (B : Nat) (v : Value) (n : Nat) (xs : List Value) (hs : a.eval s = v) (hown : X.ownsRow B 30 4 v n xs) (k : Tok) (g : Nat) (hx : a.eval x = .slice (some ⟨g, 0, none⟩) 1 1)
    (hk : Blk X g 30 #[.int .i64 k.kind, .string k.text, .int .i64 k.int, .int .i64 k.place]) (hroom : n ≤ 1000000) (hB : B ≤ X.heap.size)
    (h : ∀ A' c' w', w'.ownsRow B 30 4 (.slice A' (n + 1) c') (n + 1) (xs ++ tokCells k) → X.grownBy w' v.ownBlock → Below B X w' → wpList Tryd.prog ops Q rest (a.put o.dst (.slice A' (n + 1) c')) w') : wpList Tryd.prog ops Q (o :: rest) a X := by
  obtain ⟨i0, hi, hz0, hz1, hz2⟩ := info_parts tokInfo
  refine wpList_app X hgd s x _ ho B 30 i0 (.agg tok0) 4 40 Tryd.underlying22 hi hz0 hz1 hz2 rfl (by decide) v n xs hs hown g (g + 1) (some ⟨g, 0, none⟩) 1 1 (tokCells k) hx
    (row_blk hk rfl (Nat.le_refl _) (by unfold maxLen; omega)) (fun u hu => toksCells_one [k] u (by simpa [toksCells] using hu)) (by unfold maxLen; omega) (by omega) hB ?_
  intro v' w' hown' hg _
  obtain ⟨A', c', rfl⟩ := own_form hown'
  exact h A' c' w' hown' hg ((Below.refl _ _).grown hg hB (fun k hk => (World.ownsRow.lt hown k hk).1))
set_option maxRecDepth 100000 in
set_option maxHeartbeats 6400000 in
theorem scans_any (s : ByteArray) (w : World) (hs : s.size ≤ 140737488355328) (hE : ScanEnv w) : Calls Tryd.prog 3 #[.string s] w (Tells1 w true) := by
  obtain ⟨r, hr⟩ : ∃ r, scanR s.data.toList = r := ⟨_, rfl⟩
  obtain ⟨acc, n, c⟩ := r
  have hcount := scanR_count hr
  obtain ⟨N, hN⟩ : ∃ N, acc.length = N := ⟨_, rfl⟩
  have HSP : Hid (∀ Y, After w Y → Calls Tryd.prog 9 #[.string s] Y (ScanN Y acc N (n : Nat) c)) := Lib.hid fun Y h => (scan_any s Y hs (hE.below h.below)).mono fun e w' hp => by rw [hr] at hp; exact scanN_of hN hp
  have HSR : Hid (∀ Y, Calls Tryd.prog 10 #[.string s] Y (ScanN Y acc N (n : Nat) c)) := Lib.hid fun Y => (refScan_any s Y hs).mono fun e w' hp => by rw [hr] at hp; exact scanN_of hN hp
  have HN := Lib.hid hN
  have hN4 : N ≤ 4096 := by omega
  clear hr hE hcount hN
  go_enter Tryd.func3, Tryd.ntmps3
  go_wp2_with fail
  refine (HSP.out _ (After.refl w)).mono ?_
  rintro e w1 ⟨A1, c1, rfl, ho1, hb1⟩
  have A1' := (After.refl w).next hb1
  have HO1 := Lib.hid ho1
  have HL1 : Hid (∀ g, (Value.slice A1 N c1).ownBlock = some g → g < w1.heap.size) := Lib.hid fun g hg => (World.ownsRow.lt (ownRN HN.out ho1) g hg).2
  clear ho1 hb1
  go_wp2_with fail
  refine (HSR.out _).mono ?_
  rintro e w2 ⟨A2, c2, rfl, ho2, hb2⟩
  have A2' := A1'.next hb2
  have HO2 := Lib.hid ho2
  have HO1b := Lib.hid (own_after HO1.out hb2)
  clear ho2 hb2 HO1
  go_wp2_with fail
  refine (refAlike_true w2 w2.heap.size w2.heap.size A1 A2 N c1 c2 acc (own_tokIn HO1b.out HN.out) (own_tokIn HO2.out HN.out) (Nat.le_refl _) (Nat.le_refl _)).mono ?_
  rintro e w3 ⟨rfl, hb3⟩
  have A3' := A2'.next hb3
  have HO2b := Lib.hid (own_after HO2.out hb3)
  have HX : Hid (∃ xs, w3.ownsRow w.heap.size 30 4 (.slice A1 N c1) N xs) := Lib.hid ⟨_, ownRN HN.out (own_after HO1b.out hb3)⟩
  clear hb3 HO2 HO1b
  go_wp2_with fail
  go_loopw [9] (fun i wr => ∃ k : Nat, i = .int .i64 k ∧ k ≤ N ∧ Hid (∃ xs, wr.ownsRow w.heap.size 30 4 (.slice A1 N c1) N xs) ∧ Hid (OwnT wr w1.heap.size (.slice A2 N c2) acc) ∧ Hid (Below w.heap.size w wr)) (fun i _ => N - (intOf i).toNat)
  case atStart => exact ⟨0, rfl, Nat.zero_le _, HX, HO2b, Lib.hid A3'.below⟩
  case round =>
    obtain ⟨k, rfl, hk, HXr, HOr, HBr⟩ := hrel
    by_cases hlt : k < N
    · obtain ⟨xs, hxs⟩ := HXr.out
      obtain ⟨g, rfl⟩ := own_some hxs (by omega)
      have hth := own_there hxs hlt
      have hne : (Value.slice A2 N c2).ownBlock = none ∨ (Value.slice A2 N c2).ownBlock ≠ some g := other_row (v' := .slice (some ⟨g, 0, none⟩) N c1) (ownRN HN.out HOr.out) HL1.out
      obtain ⟨h1, h2, h3⟩ := spoil_row (W := w) (o := k * 4) hxs (.int .i64 (-1)) (.string ⟨#[115, 112, 111, 105, 108, 116]⟩) (.int .i64 (-1)) (.int .i64 (-1))
      have HX' := Lib.hid h1
      have HO' : Hid (OwnT (wr.setCells g (k * 4) [.int .i64 (-1), .string ⟨#[115, 112, 111, 105, 108, 116]⟩, .int .i64 (-1), .int .i64 (-1)]) w1.heap.size (.slice A2 N c2) acc) := Lib.hid (ownT_of HN.out (h2 _ _ _ _ (ownRN HN.out HOr.out) hne))
      have HB' := Lib.hid (h3 HBr.out)
      clear h1 h2 h3 hxs hne HXr HOr HBr
      go_wp2_with ((with_reducible show wpList _ _ _ (Oper.mk _ (Op.store 30 _ _) _ _ _ _ :: _) _ _); go_must (refine wpList_store_mid rfl _ _ _ rfl g (k * 4) #[.int .i64 (-1), .string ⟨#[115, 112, 111, 105, 108, 116]⟩, .int .i64 (-1), .int .i64 (-1)] (by first | rfl | go_simp) rfl hth infoTok (one_tok _ _ _ _) ?_))
      exact ⟨⟨k + 1, by go_num, by omega, HX', HO', HB'⟩, by simp [intOf]; omega⟩
    · obtain ⟨xs, hxs⟩ := HXr.out
      have HX' := Lib.hid hxs
      clear hxs HXr
      have hsz := HBr.out.size
      go_wp2_with (at_builtin; (with_reducible show wpList _ _ _ (Oper.mk _ (Op.call ⟨_, _, #[22, 22]⟩) _ _ _ _ :: _) _ _); go_must (refine app_raw rfl _ _ rfl w.heap.size _ N xs rfl (World.ownsRow.alloc HX'.out _) ⟨-1, ⟨#[]⟩, 0, 0⟩ _ rfl (Blk.new' (by simp)) (by omega) (by simp; omega) ?_; intro A9 c9 w9 hown9 hg9 hb9; have HB9 := Lib.hid ((HBr.out.alloc hsz _).trans hb9); have HO9 : Hid (OwnT w9 w1.heap.size (.slice A2 N c2) acc) := Lib.hid (by have h0 := ownRN HN.out (OwnT.alloc HOr.out (.cells #[.int .i64 (-1), .string ⟨#[]⟩, .int .i64 0, .int .i64 0] 30)); exact ownT_of HN.out (h0.kept hg9 (other_row h0 HL1.out))); clear hown9 hg9 hb9))
      have A9' : After w w9 := ⟨HB9.out⟩
      go_wp2_with fail
      refine (HSP.out _ A9').mono ?_
      rintro e w4 ⟨A4, c4, rfl, ho4, hb4⟩
      have A4' := A9'.next hb4
      have HO4 := Lib.hid ho4
      have HO2c := Lib.hid (own_after HO9.out hb4)
      clear ho4 hb4 HO9
      have hn1 : (((N + 1 : Nat) : Int) == (N : Int) + 1) = true := by rw [beq_iff_eq]; omega
      go_wp2_with fail
      refine (refAlike_true w4 w4.heap.size w4.heap.size A4 A2 N c4 c2 acc (own_tokIn HO4.out HN.out) (own_tokIn HO2c.out HN.out) (Nat.le_refl _) (Nat.le_refl _)).mono ?_
      rintro e w5 ⟨rfl, hb5⟩
      have A5' := A4'.next hb5
      go_wp2_with fail
      go_ret
      exact tells1 (by first | rfl | (simp; done)) A5'.below
end Go.Proofs.YtinhlemebnlijaaDoor

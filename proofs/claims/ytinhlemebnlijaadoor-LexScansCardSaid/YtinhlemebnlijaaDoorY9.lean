/-
  WALKS over package lex: Scan.
-/
import Derived.Test.YtinhlemebnlijaaDoorY8
import Derived.Deep.WholeRow
namespace Go.Proofs.YtinhlemebnlijaaDoor
open Go Go.RowKit
set_option linter.unusedVariables false
theorem own_form {w : World} {B size n : Nat} {e : TypeId} {v : Value} {xs : List Value} (h : w.ownsRow B e size v n xs) : ∃ A c, v = .slice A n c := by
  rcases h.2 with ⟨rfl, rfl⟩ | ⟨g, cap, _, rfl, _⟩
  · exact ⟨none, 0, rfl⟩
  · exact ⟨_, _, rfl⟩
theorem app_tok {X : World} {ops : Array Oper} {rest : List Oper} {o : Oper} {a : Act} {Q : Exit → Act → World → Prop} (hgd : o.guard = none) (s x : Operand)
    (ho : o.op = .call { callee := .builtin .append, args := #[s, x], argTypes := #[22, 22] })
    (B : Nat) (v : Value) (l : List Tok) (hs : a.eval s = v) (hown : OwnT X B v l) (k : Tok) (g : Nat) (hx : a.eval x = .slice (some ⟨g, 0, none⟩) 1 1)
    (hk : Blk X g 30 #[.int .i64 k.kind, .string k.text, .int .i64 k.int, .int .i64 k.place]) (hroom : l.length ≤ 1000000) (hB : B ≤ X.heap.size)
    (h : ∀ v' w', OwnT w' B v' (l ++ [k]) → X.grownBy w' v.ownBlock → Below B X w' → wpList Tryd.prog ops Q rest (a.put o.dst v') w') : wpList Tryd.prog ops Q (o :: rest) a X := by
  obtain ⟨i0, hi, hz0, hz1, hz2⟩ := info_parts tokInfo
  refine wpList_app X hgd s x _ ho B 30 i0 (.agg tok0) 4 40 Tryd.underlying22 hi hz0 hz1 hz2 rfl (by decide) v l.length (toksCells l) hs hown g (g + 1) (some ⟨g, 0, none⟩) 1 1 (tokCells k) hx
    (row_blk hk rfl (Nat.le_refl _) (by unfold maxLen; omega)) (fun u hu => toksCells_one [k] u (by simpa [toksCells] using hu)) (by unfold maxLen; omega) (by omega) hB ?_
  intro v' w' hown' hg _
  refine h v' w' ?_ hg ((Below.refl _ _).grown hg hB (fun k hk => (World.ownsRow.lt hown k hk).1))
  unfold OwnT
  rw [List.length_append, List.length_singleton]
  unfold toksCells at hown' ⊢
  rw [List.flatMap_append]
  simpa using hown'
/-- the reader's box, the closure's text, and the tokens so far -/
structure SB (s : ByteArray) (g g5 : Nat) (w Y : World) : Prop where
  str : Blk Y g 9 #[.string s]
  rdr : Blk Y g5 47 #[.string s, rdrF g]
  bel : Below w.heap.size w Y
theorem SB.after {s : ByteArray} {g g5 : Nat} {w Y Y' : World} (h : SB s g g5 w Y) (hb : Below Y.heap.size Y Y') : SB s g g5 w Y' :=
  ⟨h.str.after hb, h.rdr.after hb, h.bel.trans (hb.mono h.bel.size)⟩
theorem SB.alloc {s : ByteArray} {g g5 : Nat} {w Y : World} (h : SB s g g5 w Y) (o : Obj) : SB s g g5 w (Y.alloc o) := h.after ((Below.refl _ _).alloc (Nat.le_refl _) _)
theorem SB.grown {s : ByteArray} {g g5 : Nat} {w Y Y' : World} {v : Value} {l : List Tok} (h : SB s g g5 w Y) (ho : OwnT Y w.heap.size v l) (hg : Y.grownBy Y' v.ownBlock) (hb : Below w.heap.size Y Y') : SB s g g5 w Y' :=
  ⟨h.str.grown hg (Ne.symm (own_blk_ne ho h.str (by decide))), h.rdr.grown hg (Ne.symm (own_blk_ne ho h.rdr (by decide))), h.bel.trans hb⟩
theorem OwnT.alloc {w : World} {B : Nat} {v : Value} {l : List Tok} (h : OwnT w B v l) (o : Obj) : OwnT (w.alloc o) B v l := World.ownsRow.alloc h o
structure ScanEnv (w : World) : Prop where
  env : Env w
  lex : LexEnv w
theorem ScanEnv.below {w w' : World} (h : ScanEnv w) (hb : Below w.heap.size w w') : ScanEnv w' := ⟨h.env.below hb, h.lex.below hb⟩
theorem SB.ctx {s : ByteArray} {g g5 : Nat} {w Y : World} (h : SB s g g5 w Y) (hs : s.size ≤ 4096) (hE : ScanEnv w) : TokCtx s g Y := ⟨hs, h.str, (hE.below h.bel).env, (hE.below h.bel).lex⟩
theorem SB.c0 {s : ByteArray} {g g5 : Nat} {w Y : World} (h : SB s g g5 w Y) : Y.cell? ⟨g5, 0, none⟩ = some (.string s) := h.rdr.cell 0
theorem SB.c1 {s : ByteArray} {g g5 : Nat} {w Y : World} (h : SB s g g5 w Y) : Y.cell? ⟨g5, 1, none⟩ = some (rdrF g) := h.rdr.cell 1
theorem scan_long (s : ByteArray) (w : World) (hs : s.size ≤ 140737488355328) (h : 4096 < s.size) : Calls Tryd.prog 9 #[.string s] w (ScanPost w (scanR s.data.toList)) := by
  have hr : scanR s.data.toList = ([], 0, 3) := by unfold scanR; rw [if_pos (by rw [toList_eq]; exact h)]
  have d1 : decide ((4096 : Int) < (s.size : Int)) = true := by simp; omega
  rw [hr]
  clear hr
  go_enter Tryd.func9, Tryd.ntmps9
  go_wp2_with fail
  go_ret3
  exact ⟨_, rfl, OwnT.nil _ _, Below.refl _ _⟩
def GotTok (w : World) (k : Tok) (q : Nat) (e : Ending) (w' : World) : Prop :=
  e = .returned (.tuple #[.agg #[.int .i64 k.kind, .string k.text, .int .i64 k.int, .int .i64 k.place], .int .i64 q, .bool true]) ∧ Below w.heap.size w w'
def GotNone (w : World) (q : Nat) (e : Ending) (w' : World) : Prop :=
  ∃ a b c d, e = .returned (.tuple #[.agg #[.int .i64 a, .string b, .int .i64 c, .int .i64 d], .int .i64 q, .bool false]) ∧ Below w.heap.size w w'
theorem gotTok {w w' : World} {p n : Nat} {k : Tok} {e : Ending} (h : TokRes w p (some k, n) e w') : GotTok w k (p + n) e w' := by
  obtain ⟨hb, k0, he, hk⟩ := h
  obtain rfl := hk k rfl
  exact ⟨he, hb⟩
theorem gotNone {w w' : World} {p n : Nat} {e : Ending} (h : TokRes w p (none, n) e w') : GotNone w (p + n) e w' := by
  obtain ⟨hb, k0, he, _⟩ := h
  exact ⟨_, _, _, _, he, hb⟩
def SRel (s : ByteArray) (g g5 : Nat) (w : World) (v i : Value) (wr : World) : Prop :=
  ∃ (acc : List Tok) (p : Nat), i = .int .i64 p ∧ ScanAt s.data.toList acc p ∧ OwnT wr w.heap.size v acc ∧ SB s g g5 w wr
set_option maxHeartbeats 3200000 in
theorem scan_short (s : ByteArray) (w : World) (hs : s.size ≤ 4096) (hE : ScanEnv w) : Calls Tryd.prog 9 #[.string s] w (ScanPost w (scanR s.data.toList)) := by
  have hsz := toList_eq s
  have HN : Hid (∀ Y, Calls Tryd.prog 16 #[.string s] Y (fun e w' => ∃ g, e = .returned (.agg #[.string s, rdrF g]) ∧ Blk w' g 9 #[.string s] ∧ Below Y.heap.size Y w')) := Lib.hid fun Y => newReader_any s Y
  have HP : Hid (∀ F p Y, p ≤ s.size → Calls Tryd.prog 17 #[.agg #[.string s, F], .int .i64 p] Y (Counts Y (p + past (s.data.toList.drop p)))) := Lib.hid fun F p Y hp => pastBlanks_any s F p Y (by unfold maxLen; omega) hp
  have HT : Hid (∀ g g5 p Y, p < s.size → SB s g g5 w Y → Calls Tryd.prog 18 #[.agg #[.string s, rdrF g], .int .i64 p] Y (TokRes Y p (lexT (s.data.toList.drop p)))) := Lib.hid fun g g5 p Y hp h => token_any s p g Y hp (h.ctx hs hE)
  have HP0 : Hid (∀ F Y, Calls Tryd.prog 17 #[.agg #[.string s, F], .int .i64 0] Y (Counts Y (0 + past (s.data.toList.drop 0)))) := Lib.hid fun F Y => pastBlanks_any s F 0 Y (by unfold maxLen; omega) (Nat.zero_le _)
  have H0 : ScanAt s.data.toList [] (0 + past (s.data.toList.drop 0)) := ScanAt.start _
  have d1 : decide ((4096 : Int) < (s.size : Int)) = false := by simp; omega
  clear hE
  go_enter Tryd.func9, Tryd.ntmps9
  go_wp2_with (first | (go_at_call 16; refine (HN.out _).mono ?_; rintro e w1 ⟨g, rfl, hstr, hb1⟩; have hB1 := Blk.new w1 47 #[.string ⟨#[]⟩, .nilFunc]) | ((with_reducible show wpList _ _ _ (Oper.mk _ (Op.store 47 _ _) _ _ _ _ :: _) _ _); refine wpList_store_row rfl _ _ _ rfl w1.heap.size _ rfl rfl 47 _ hB1 infoRdr rfl (one_rdr _ _ _) ?_; rw [World.setRow_alloc_new]; clear hB1; have HS0 : SB s g w1.heap.size w (w1.alloc (.cells #[.string s, rdrF g] 47)) := ⟨hstr.alloc _, Blk.new _ _ _, hb1.alloc hb1.size _⟩; have c0 := HS0.c0; have c1 := HS0.c1) | (go_at_call 17; refine (HP0.out _ _).mono ?_; rintro e w2 ⟨rfl, hb2⟩; have HS2 := HS0.after hb2; clear HS0 hb2 c0 c1 hstr hb1))
  go_loopw [6, 7, 8, 9, 10] (fun v i _ _ _ wr => SRel s g w1.heap.size w v i wr) (fun _ i _ _ _ _ => s.size - (intOf i).toNat)
  case atStart => exact ⟨[], _, by first | rfl | simp, H0, OwnT.nil _ _, HS2⟩
  case round =>
    obtain ⟨acc, p, rfl, HA, hown, hsb⟩ := hrel
    clear HS2 H0
    obtain ⟨A, cc, hvA⟩ := own_form hown
    have c0 := hsb.c0
    have c1 := hsb.c1
    have hple := HA.le
    rw [hsz] at hple
    have HSB := Lib.hid hsb
    have HOW := Lib.hid hown
    clear hsb hown
    by_cases hlt : p < s.size
    · have HTk := HT.out g w1.heap.size p wr hlt HSB.out
      obtain ⟨o, n, hx⟩ : ∃ o n, lexT (s.data.toList.drop p) = (o, n) := ⟨_, _, rfl⟩
      rw [hx] at HTk
      cases o with
      | some k =>
        have HTK : Hid (Calls Tryd.prog 18 #[.agg #[.string s, rdrF g], .int .i64 p] wr (GotTok wr k (p + n))) := Lib.hid (HTk.mono fun e w' h => gotTok h)
        have hstep := HA.tok (by rw [hsz]; exact hlt) hx
        have hn1 := (lexT_len hx).1
        rw [hsz] at hstep
        have HX := Lib.hid hstep.2
        have hqs := hstep.1
        have hpl := hstep.2.le
        rw [hsz] at hpl
        have hfew := HA.few
        clear HTk hx hstep
        go_wp2_with (first | (go_at_call 18; refine HTK.out.mono ?_; rintro e w2 ⟨rfl, hb2⟩; have HS2 := HSB.out.after hb2; have HO2 : OwnT w2 w.heap.size (.slice A acc.length cc) acc := own_after (by rw [← hvA]; exact HOW.out) hb2; have hw2 := HS2.bel.size) | (at_builtin; go_must (refine app_tok rfl _ _ rfl w.heap.size _ acc rfl ((HO2.alloc _).alloc _) (k.at p) (w2.heap.size + 1) rfl (Blk.new' (by simp)) (by omega) (by simp; omega) ?_; intro v3 w3 hown3 hg3 hb3; have HS3 := ((HS2.alloc _).alloc _).grown ((HO2.alloc _).alloc _) hg3 hb3; have c30 := HS3.c0; have c31 := HS3.c1)) | (go_at_call 17; go_must (refine (HP.out _ (p + n) _ hqs).mono ?_; rintro e w4 ⟨rfl, hb4⟩)))
        exact ⟨⟨acc ++ [k.at p], p + n + past (s.data.toList.drop (p + n)), by simp, HX.out, own_after hown3 hb4, HS3.after hb4⟩, by simp [intOf]; omega⟩
      | none =>
        have HTK : Hid (Calls Tryd.prog 18 #[.agg #[.string s, rdrF g], .int .i64 p] wr (GotNone wr (p + n))) := Lib.hid (HTk.mono fun e w' h => gotNone h)
        have HX := Lib.hid (HA.bad (by rw [hsz]; exact hlt) hx (by rw [hsz]; exact hs))
        clear HTk hx
        go_wp2_with (first | (go_at_call 18; refine HTK.out.mono ?_; rintro e w2 ⟨ta, tb, tc, td, rfl, hb2⟩))
        go_ret3
        rw [HX.out]
        exact ⟨_, rfl, OwnT.nil _ _, (HSB.out.bel.trans (hb2.mono HSB.out.bel.size)).alloc (by have := HSB.out.bel.size; have := hb2.size; omega) _⟩
    · have HX := Lib.hid (HA.fin (by rw [hsz]; exact hlt) (by rw [hsz]; exact hs))
      go_wp2_with fail
      go_ret3
      rw [HX.out]
      exact ⟨_, rfl, HOW.out, HSB.out.bel⟩
theorem scan_any (s : ByteArray) (w : World) (hs : s.size ≤ 140737488355328) (hE : ScanEnv w) : Calls Tryd.prog 9 #[.string s] w (ScanPost w (scanR s.data.toList)) := by
  by_cases h : 4096 < s.size
  · exact scan_long s w hs h
  · exact scan_short s w (by omega) hE
end Go.Proofs.YtinhlemebnlijaaDoor

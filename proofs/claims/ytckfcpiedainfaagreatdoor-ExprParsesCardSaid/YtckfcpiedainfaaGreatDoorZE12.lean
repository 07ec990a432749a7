/-
  WALKS over package lex: a token in one; Scan.
  WALKS over package lex: Scan.
-/
import Derived.Test.YtckfcpiedainfaaGreatDoorZE11
import Derived.Deep.WholeRow
namespace Go.Proofs.YtckfcpiedainfaaGreatDoor
open Go Go.RowKit
set_option linter.unusedVariables false
theorem ext_ba (s : ByteArray) (p n : Nat) : s.extract p (p + n) = ba ((s.data.toList.drop p).take n) := by
  refine ba_of ?_
  rw [Lib.extract_data, show p + n - p = n by omega]
theorem tokRes_of {w w' : World} {p n : Nat} {k : Option Tok} {b : Bool} {x : Option Tok × Nat} {e : Ending} (h : TokAt w k (p + n) b e w') (h1 : x.2 = n) (h2 : x.1.isSome = b) (h3 : ∀ k', x.1 = some k' → k = some k') : TokRes w p x e w' := by
  obtain ⟨hb, k', he, hk⟩ := h
  exact ⟨hb, k', by rw [he, h1, h2], fun k0 h0 => hk k0 (h3 k0 h0)⟩
theorem token_any (s : ByteArray) (p g : Nat) (w : World) (hp : p < s.size) (hC : TokCtx s g w) :
    Calls Tryz.prog 31 #[.agg #[.string s, rdrF g], .int .i64 p] w (TokRes w p (lexT (s.data.toList.drop p))) := by
  have hl : (s.data.toList.drop p).length = s.size - p := by rw [List.length_drop, toList_eq]
  have hdd : ∀ n, s.data.toList.drop (p + n) = (s.data.toList.drop p).drop n := fun n => by rw [List.drop_drop]
  have hw := lexT_way (s.data.toList.drop p)
  generalize lexT (s.data.toList.drop p) = x at hw
  cases hw with
  | name n h1 h2 =>
    refine (token_name s p g (p + n) w hp hC (by omega) (by have := h1.le; omega) (by rw [h1.eq])).mono fun e w' h => tokRes_of h ?_ ?_ ?_
    · unfold nameT; split <;> rfl
    · unfold nameT; rw [hdd]; cases apart ((s.data.toList.drop p).drop n) <;> rfl
    · intro k' hk
      unfold nameT at hk
      split at hk
      · rw [← hk, ext_ba, show p + n - p = n by omega]
      · cases hk
  | int n h1 h2 h3 =>
    refine (token_int s p g (p + n) w hp hC (by omega) (by have := h2.le; omega) h1.eq (by rw [h2.eq])).mono fun e w' h => tokRes_of h ?_ ?_ ?_
    · unfold intTk; split <;> rfl
    · unfold intTk; rw [hdd]; cases apart ((s.data.toList.drop p).drop n) <;> rfl
    · intro k' hk
      unfold intTk at hk
      split at hk
      · rw [← hk, show p + n - p = n by omega]
      · cases hk
  | text t h1 h2 h3 =>
    have h34 : s[p].toNat = 34 := by
      rw [drop_get s p hp] at h3
      rw [(List.cons.inj h3).1]; rfl
    have hu := unq_quote h3
    unfold textT
    rcases hs : scanL t with ⟨o, m⟩
    rw [hs] at hu
    cases o with
    | some l => exact (token_text s p g l (p + 1 + m) 0 w hp hC h34 h1.eq h2.eq hu).mono fun e w' h => tokRes_of (n := m + 1) (by rw [show p + (m + 1) = p + 1 + m by omega]; exact h) rfl rfl (fun k' hk => hk)
    | none => exact (token_text s p g [] (p + 1 + m) 10 w hp hC h34 h1.eq h2.eq hu).mono fun e w' h => tokRes_of (n := m + 1) (by rw [show p + (m + 1) = p + 1 + m by omega]; exact h) rfl rfl (fun k' hk => by cases hk)
  | mark n h1 h2 h3 h4 =>
    have h34 : s[p].toNat ≠ 34 := by
      intro e
      apply h3
      rw [drop_get s p hp]
      simp; exact UInt8.toNat_inj.1 e
    have ha := ahead_is (s.data.toList.drop p)
    have hn : (ahead (s.data.toList.drop p)).2 = n := by rw [← ha.far.eq, h4.eq]
    have hy := ha.yes
    have hno := ha.no
    rw [hn] at hy hno
    unfold markT
    cases hm : markB ((s.data.toList.drop p).take n) with
    | true =>
      have hl' : ((s.data.toList.drop p).take n).length = n := by rw [List.length_take]; have := h4.le; omega
      have hne : (s.data.toList.drop p).take n ≠ [] := by intro e; rw [e] at hm; exact absurd hm (by decide)
      have := token_mark s p g n ((s.data.toList.drop p).take n) w hp hC h34 h1.eq h2.eq (by rw [← hy hm, ← hn]) hne
      rw [hl'] at this
      exact this.mono fun e w' h => tokRes_of h rfl rfl (fun k' hk => hk)
    | false =>
      exact (token_none s p g n w hp hC h34 h1.eq h2.eq (by rw [← hno hm, ← hn])).mono fun e w' h => tokRes_of h rfl rfl (fun k' hk => by cases hk)
def tokCells (k : Tok) : List Value := [.int .i64 k.kind, .string k.text, .int .i64 k.int, .int .i64 k.place]
theorem tokCells_len (k : Tok) : (tokCells k).length = 4 := rfl
def toksCells (l : List Tok) : List Value := l.flatMap tokCells
theorem toksCells_len (l : List Tok) : (toksCells l).length = l.length * 4 := flatN_len tokCells_len l
theorem toksCells_one (l : List Tok) : ∀ u ∈ toksCells l, u.oneCell' = true := by
  intro u hu
  obtain ⟨p, _, hp⟩ := List.mem_flatMap.1 hu
  simp only [tokCells, List.mem_cons, List.not_mem_nil, or_false] at hp
  rcases hp with rfl | rfl | rfl | rfl <;> rfl
/-- the slice holds these tokens, in memory of the call's own -/
def OwnT (w : World) (B : Nat) (v : Value) (l : List Tok) : Prop := w.ownsRow B 80 4 v l.length (toksCells l)
theorem OwnT.nil (w : World) (B : Nat) : OwnT w B (.slice none 0 0) [] := World.ownsRow_nil w B _ _
theorem tokInfo : (Tryz.prog.info? 80).map (fun i => (i.zero, i.size, i.bytes)) = some (some (.agg tok0), 4, 40) := by kernel_rfl
/-- what Scan tells of a text -/
def scanR (S : List UInt8) : List Tok × Nat × Int :=
  if 4096 < S.length then ([], 0, 3) else match scanT 0 S with
    | (some l, _) => (l, 0, 0)
    | (none, n) => ([], n, 70)
def ScanPost (w : World) (r : List Tok × Nat × Int) (e : Ending) (w' : World) : Prop :=
  ∃ v, e = .returned (.tuple #[v, .int .i64 r.2.1, .int .i64 r.2.2]) ∧ OwnT w' w.heap.size v r.1 ∧ Below w.heap.size w w'
def comb (acc : List Tok) : Option (List Tok) × Nat → Option (List Tok) × Nat
  | (some l, n) => (some (acc ++ l), n)
  | (none, e) => (none, e)
theorem comb_ahd (acc : List Tok) (k : Tok) (x : Option (List Tok) × Nat) (hx : ∀ l n, x = (some l, n) → n = 0) : comb acc (ahd k x) = comb (acc ++ [k]) x := by
  obtain ⟨o, n⟩ := x
  cases o with
  | some l => simp [comb, ahd, hx l n rfl]
  | none => rfl
theorem scanT_past (S : List UInt8) (p : Nat) : ∀ (d : Nat) (r : List UInt8), r.length ≤ d → scanT p r = scanT (p + past r) (r.drop (past r)) := by
  intro d
  induction d generalizing p with
  | zero =>
    intro r hd
    obtain rfl : r = [] := List.length_eq_zero_iff.1 (by omega)
    rfl
  | succ d ih =>
    intro r hd
    cases r with
    | nil => rfl
    | cons c t =>
      cases hb : blank c with
      | true => rw [scanT_blank hb, past_blank hb, ih (p + 1) t (by simp at hd; omega), List.drop_succ_cons]; congr 1; omega
      | false => rw [past_other hb]; rfl
theorem past_stop (r : List UInt8) : ∀ c t, r.drop (past r) = c :: t → blank c = false := by
  induction r with
  | nil => intro c t h; simp at h
  | cons d r ih =>
    intro c t h
    cases hb : blank d with
    | true => rw [past_blank hb, List.drop_succ_cons] at h; exact ih c t h
    | false => rw [past_other hb] at h; simp at h; rw [← h.1]; exact hb
/-- so far: these tokens, at a place where no blank stands -/
structure ScanAt (S : List UInt8) (acc : List Tok) (p : Nat) : Prop where
  le : p ≤ S.length
  out : scanT 0 S = comb acc (scanT p (S.drop p))
  front : ∀ c t, S.drop p = c :: t → blank c = false
  few : acc.length ≤ p
theorem comb_nil (x : Option (List Tok) × Nat) : comb [] x = x := by
  obtain ⟨o, n⟩ := x
  cases o <;> rfl
theorem ScanAt.start (S : List UInt8) : ScanAt S [] (0 + past (S.drop 0)) := by
  rw [List.drop_zero, Nat.zero_add]
  refine ⟨past_le S, ?_, past_stop S, Nat.zero_le _⟩
  rw [comb_nil]
  have := scanT_past S 0 S.length S (Nat.le_refl _)
  rwa [Nat.zero_add] at this
theorem ScanAt.tok {S : List UInt8} {acc : List Tok} {p n : Nat} {k : Tok} (h : ScanAt S acc p) (hp : p < S.length) (hk : lexT (S.drop p) = (some k, n)) :
    p + n ≤ S.length ∧ ScanAt S (acc ++ [k.at p]) (p + n + past (S.drop (p + n))) := by
  have hl := lexT_len hk
  rw [List.length_drop] at hl
  have hpast := past_le (S.drop (p + n))
  rw [List.length_drop] at hpast
  refine ⟨by omega, ⟨by omega, ?_, ?_, ?_⟩⟩
  · cases hd : S.drop p with
    | nil => have := congrArg List.length hd; rw [List.length_drop] at this; simp at this; omega
    | cons c t =>
      rw [hd] at hk
      rw [h.out, hd, scanT_tok (h.front c t hd) hk, ← hd, List.drop_drop, comb_ahd _ _ _ (fun l n h => scanT_zero _ _ _ _ _ (Nat.le_refl _) h), scanT_past S (p + n) _ _ (Nat.le_refl _), List.drop_drop]
  · intro c t h'
    rw [← List.drop_drop] at h'
    exact past_stop _ c t h'
  · have := h.few
    rw [List.length_append, List.length_singleton]; omega
theorem ScanAt.bad {S : List UInt8} {acc : List Tok} {p n : Nat} (h : ScanAt S acc p) (hp : p < S.length) (hk : lexT (S.drop p) = (none, n)) (h4 : S.length ≤ 4096) : scanR S = ([], p + n, 70) := by
  unfold scanR
  rw [if_neg (by omega), h.out]
  cases hd : S.drop p with
  | nil => have := congrArg List.length hd; rw [List.length_drop] at this; simp at this; omega
  | cons c t =>
    rw [hd] at hk
    rw [scanT_bad (h.front c t hd) hk]; rfl
theorem ScanAt.fin {S : List UInt8} {acc : List Tok} {p : Nat} (h : ScanAt S acc p) (hp : ¬ p < S.length) (h4 : S.length ≤ 4096) : scanR S = (acc, 0, 0) := by
  unfold scanR
  rw [if_neg (by omega), h.out, List.drop_eq_nil_of_le (by omega), scanT_nil]
  simp [comb]
end Go.Proofs.YtckfcpiedainfaaGreatDoor
namespace Go.Proofs.YtckfcpiedainfaaGreatDoor
open Go Go.RowKit
set_option linter.unusedVariables false
theorem own_form {w : World} {B size n : Nat} {e : TypeId} {v : Value} {xs : List Value} (h : w.ownsRow B e size v n xs) : ∃ A c, v = .slice A n c := by
  rcases h.2 with ⟨rfl, rfl⟩ | ⟨g, cap, _, rfl, _⟩
  · exact ⟨none, 0, rfl⟩
  · exact ⟨_, _, rfl⟩
theorem app_tok {X : World} {ops : Array Oper} {rest : List Oper} {o : Oper} {a : Act} {Q : Exit → Act → World → Prop} (hgd : o.guard = none) (s x : Operand)
    (ho : o.op = .call { callee := .builtin .append, args := #[s, x], argTypes := #[41, 41] })
    (B : Nat) (v : Value) (l : List Tok) (hs : a.eval s = v) (hown : OwnT X B v l) (k : Tok) (g : Nat) (hx : a.eval x = .slice (some ⟨g, 0, none⟩) 1 1)
    (hk : Blk X g 80 #[.int .i64 k.kind, .string k.text, .int .i64 k.int, .int .i64 k.place]) (hroom : l.length ≤ 1000000) (hB : B ≤ X.heap.size)
    (h : ∀ v' w', OwnT w' B v' (l ++ [k]) → X.grownBy w' v.ownBlock → Below B X w' → wpList Tryz.prog ops Q rest (a.put o.dst v') w') : wpList Tryz.prog ops Q (o :: rest) a X := by
  obtain ⟨i0, hi, hz0, hz1, hz2⟩ := info_parts tokInfo
  refine wpList_app X hgd s x _ ho B 80 i0 (.agg tok0) 4 40 Tryz.underlying41 hi hz0 hz1 hz2 rfl (by decide) v l.length (toksCells l) hs hown g (g + 1) (some ⟨g, 0, none⟩) 1 1 (tokCells k) hx
    (row_blk hk rfl (Nat.le_refl _) (by unfold maxLen; omega)) (fun u hu => toksCells_one [k] u (by simpa [toksCells] using hu)) (by unfold maxLen; omega) (by omega) hB ?_
  intro v' w' hown' hg _
  refine h v' w' ?_ hg ((Below.refl _ _).grown hg hB (fun k hk => (World.ownsRow.lt hown k hk).1))
  unfold OwnT
  rw [List.length_append, List.length_singleton]
  unfold toksCells at hown' ⊢
  rw [List.flatMap_append]
  simpa using hown'
/-- the reader's box, the closure's text, and the tokens so far -/
structure SB (s : ByteArray) (g g5 : Nat) (w Y : World) : Prop where
  str : Blk Y g 9 #[.string s]
  rdr : Blk Y g5 77 #[.string s, rdrF g]
  bel : Below w.heap.size w Y
theorem SB.after {s : ByteArray} {g g5 : Nat} {w Y Y' : World} (h : SB s g g5 w Y) (hb : Below Y.heap.size Y Y') : SB s g g5 w Y' :=
  ⟨h.str.after hb, h.rdr.after hb, h.bel.trans (hb.mono h.bel.size)⟩
theorem SB.alloc {s : ByteArray} {g g5 : Nat} {w Y : World} (h : SB s g g5 w Y) (o : Obj) : SB s g g5 w (Y.alloc o) := h.after ((Below.refl _ _).alloc (Nat.le_refl _) _)
theorem SB.grown {s : ByteArray} {g g5 : Nat} {w Y Y' : World} {v : Value} {l : List Tok} (h : SB s g g5 w Y) (ho : OwnT Y w.heap.size v l) (hg : Y.grownBy Y' v.ownBlock) (hb : Below w.heap.size Y Y') : SB s g g5 w Y' :=
  ⟨h.str.grown hg (Ne.symm (own_blk_ne ho h.str (by decide))), h.rdr.grown hg (Ne.symm (own_blk_ne ho h.rdr (by decide))), h.bel.trans hb⟩
theorem OwnT.alloc {w : World} {B : Nat} {v : Value} {l : List Tok} (h : OwnT w B v l) (o : Obj) : OwnT (w.alloc o) B v l := World.ownsRow.alloc h o
structure ScanEnv (w : World) : Prop where
  env : Env w
  lex : LexEnv w
theorem ScanEnv.below {w w' : World} (h : ScanEnv w) (hb : Below w.heap.size w w') : ScanEnv w' := ⟨Env.below h.env hb, h.lex.below hb⟩
theorem SB.ctx {s : ByteArray} {g g5 : Nat} {w Y : World} (h : SB s g g5 w Y) (hs : s.size ≤ 4096) (hE : ScanEnv w) : TokCtx s g Y := ⟨hs, h.str, (hE.below h.bel).env, (hE.below h.bel).lex⟩
theorem SB.c0 {s : ByteArray} {g g5 : Nat} {w Y : World} (h : SB s g g5 w Y) : Y.cell? ⟨g5, 0, none⟩ = some (.string s) := h.rdr.cell 0
theorem SB.c1 {s : ByteArray} {g g5 : Nat} {w Y : World} (h : SB s g g5 w Y) : Y.cell? ⟨g5, 1, none⟩ = some (rdrF g) := h.rdr.cell 1
theorem scan_long (s : ByteArray) (w : World) (hs : s.size ≤ 140737488355328) (h : 4096 < s.size) : Calls Tryz.prog 16 #[.string s] w (ScanPost w (scanR s.data.toList)) := by
  have hr : scanR s.data.toList = ([], 0, 3) := by unfold scanR; rw [if_pos (by rw [toList_eq]; exact h)]
  have d1 : decide ((4096 : Int) < (s.size : Int)) = true := by simp; omega
  rw [hr]
  clear hr
  go_enter Tryz.func16, Tryz.ntmps16
  go_wp2_with fail
  go_ret3
  exact ⟨_, rfl, OwnT.nil _ _, Below.refl _ _⟩
def GotTok (w : World) (k : Tok) (q : Nat) (e : Ending) (w' : World) : Prop :=
  e = .returned (.tuple #[.agg #[.int .i64 k.kind, .string k.text, .int .i64 k.int, .int .i64 k.place], .int .i64 q, .bool true]) ∧ Below w.heap.size w w'
def GotNone (w : World) (q : Nat) (e : Ending) (w' : World) : Prop :=
  ∃ a b c d, e = .returned (.tuple #[.agg #[.int .i64 a, .string b, .int .i64 c, .int .i64 d], .int .i64 q, .bool false]) ∧ Below w.heap.size w w'
theorem gotTok {w w' : World} {p n : Nat} {k : Tok} {e : Ending} (h : TokRes w p (some k, n) e w') : GotTok w k (p + n) e w' := by
  obtain ⟨hb, k0, he, hk⟩ := h
  obtain rfl := hk k rfl
  exact ⟨he, hb⟩
theorem gotNone {w w' : World} {p n : Nat} {e : Ending} (h : TokRes w p (none, n) e w') : GotNone w (p + n) e w' := by
  obtain ⟨hb, k0, he, _⟩ := h
  exact ⟨_, _, _, _, he, hb⟩
def SRel (s : ByteArray) (g g5 : Nat) (w : World) (v i : Value) (wr : World) : Prop :=
  ∃ (acc : List Tok) (p : Nat), i = .int .i64 p ∧ ScanAt s.data.toList acc p ∧ OwnT wr w.heap.size v acc ∧ SB s g g5 w wr
set_option maxHeartbeats 3200000 in
theorem scan_short (s : ByteArray) (w : World) (hs : s.size ≤ 4096) (hE : ScanEnv w) : Calls Tryz.prog 16 #[.string s] w (ScanPost w (scanR s.data.toList)) := by
  have hsz := toList_eq s
  have HN : Hid (∀ Y, Calls Tryz.prog 29 #[.string s] Y (fun e w' => ∃ g, e = .returned (.agg #[.string s, rdrF g]) ∧ Blk w' g 9 #[.string s] ∧ Below Y.heap.size Y w')) := Lib.hid fun Y => newReader_any s Y
  have HP : Hid (∀ F p Y, p ≤ s.size → Calls Tryz.prog 30 #[.agg #[.string s, F], .int .i64 p] Y (Counts Y (p + past (s.data.toList.drop p)))) := Lib.hid fun F p Y hp => pastBlanks_any s F p Y (by unfold maxLen; omega) hp
  have HT : Hid (∀ g g5 p Y, p < s.size → SB s g g5 w Y → Calls Tryz.prog 31 #[.agg #[.string s, rdrF g], .int .i64 p] Y (TokRes Y p (lexT (s.data.toList.drop p)))) := Lib.hid fun g g5 p Y hp h => token_any s p g Y hp (h.ctx hs hE)
  have HP0 : Hid (∀ F Y, Calls Tryz.prog 30 #[.agg #[.string s, F], .int .i64 0] Y (Counts Y (0 + past (s.data.toList.drop 0)))) := Lib.hid fun F Y => pastBlanks_any s F 0 Y (by unfold maxLen; omega) (Nat.zero_le _)
  have H0 : ScanAt s.data.toList [] (0 + past (s.data.toList.drop 0)) := ScanAt.start _
  have d1 : decide ((4096 : Int) < (s.size : Int)) = false := by simp; omega
  clear hE
  go_enter Tryz.func16, Tryz.ntmps16
  go_wp2_with (first | (go_at_call 29; refine (HN.out _).mono ?_; rintro e w1 ⟨g, rfl, hstr, hb1⟩; have hB1 := Blk.new w1 77 #[.string ⟨#[]⟩, .nilFunc]) | ((with_reducible show wpList _ _ _ (Oper.mk _ (Op.store 77 _ _) _ _ _ _ :: _) _ _); refine wpList_store_row rfl _ _ _ rfl w1.heap.size _ rfl rfl 77 _ hB1 infoRdr rfl (one_rdr _ _ _) ?_; rw [World.setRow_alloc_new]; clear hB1; have HS0 : SB s g w1.heap.size w (w1.alloc (.cells #[.string s, rdrF g] 77)) := ⟨hstr.alloc _, Blk.new _ _ _, hb1.alloc hb1.size _⟩; have c0 := HS0.c0; have c1 := HS0.c1) | (go_at_call 30; refine (HP0.out _ _).mono ?_; rintro e w2 ⟨rfl, hb2⟩; have HS2 := HS0.after hb2; clear HS0 hb2 c0 c1 hstr hb1))
  go_loopw [6, 7, 8, 9, 10] (fun v i _ _ _ wr => SRel s g w1.heap.size w v i wr) (fun _ i _ _ _ _ => s.size - (intOf i).toNat)
  case atStart => exact ⟨[], _, by first | rfl | simp, H0, OwnT.nil _ _, HS2⟩
  case round =>
    obtain ⟨acc, p, rfl, HA, hown, hsb⟩ := hrel
    clear HS2 H0
    obtain ⟨A, cc, hvA⟩ := own_form hown
    have c0 := hsb.c0
    have c1 := hsb.c1
    have hple := HA.le
    rw [hsz] at hple
    have HSB := Lib.hid hsb
    have HOW := Lib.hid hown
    clear hsb hown
    by_cases hlt : p < s.size
    · have HTk := HT.out g w1.heap.size p wr hlt HSB.out
      obtain ⟨o, n, hx⟩ : ∃ o n, lexT (s.data.toList.drop p) = (o, n) := ⟨_, _, rfl⟩
      rw [hx] at HTk
      cases o with
      | some k =>
        have HTK : Hid (Calls Tryz.prog 31 #[.agg #[.string s, rdrF g], .int .i64 p] wr (GotTok wr k (p + n))) := Lib.hid (HTk.mono fun e w' h => gotTok h)
        have hstep := HA.tok (by rw [hsz]; exact hlt) hx
        have hn1 := (lexT_len hx).1
        rw [hsz] at hstep
        have HX := Lib.hid hstep.2
        have hqs := hstep.1
        have hpl := hstep.2.le
        rw [hsz] at hpl
        have hfew := HA.few
        clear HTk hx hstep
        go_wp2_with (first | (go_at_call 31; refine HTK.out.mono ?_; rintro e w2 ⟨rfl, hb2⟩; have HS2 := HSB.out.after hb2; have HO2 : OwnT w2 w.heap.size (.slice A acc.length cc) acc := own_after (by rw [← hvA]; exact HOW.out) hb2; have hw2 := HS2.bel.size) | (at_builtin; go_must (refine app_tok rfl _ _ rfl w.heap.size _ acc rfl ((HO2.alloc _).alloc _) (k.at p) (w2.heap.size + 1) rfl (Blk.new' (by simp)) (by omega) (by simp; omega) ?_; intro v3 w3 hown3 hg3 hb3; have HS3 := ((HS2.alloc _).alloc _).grown ((HO2.alloc _).alloc _) hg3 hb3; have c30 := HS3.c0; have c31 := HS3.c1)) | (go_at_call 30; go_must (refine (HP.out _ (p + n) _ hqs).mono ?_; rintro e w4 ⟨rfl, hb4⟩)))
        exact ⟨⟨acc ++ [k.at p], p + n + past (s.data.toList.drop (p + n)), by simp, HX.out, own_after hown3 hb4, HS3.after hb4⟩, by simp [intOf]; omega⟩
      | none =>
        have HTK : Hid (Calls Tryz.prog 31 #[.agg #[.string s, rdrF g], .int .i64 p] wr (GotNone wr (p + n))) := Lib.hid (HTk.mono fun e w' h => gotNone h)
        have HX := Lib.hid (HA.bad (by rw [hsz]; exact hlt) hx (by rw [hsz]; exact hs))
        clear HTk hx
        go_wp2_with (first | (go_at_call 31; refine HTK.out.mono ?_; rintro e w2 ⟨ta, tb, tc, td, rfl, hb2⟩))
        go_ret3
        rw [HX.out]
        exact ⟨_, rfl, OwnT.nil _ _, (HSB.out.bel.trans (hb2.mono HSB.out.bel.size)).alloc (by have := HSB.out.bel.size; have := hb2.size; omega) _⟩
    · have HX := Lib.hid (HA.fin (by rw [hsz]; exact hlt) (by rw [hsz]; exact hs))
      go_wp2_with fail
      go_ret3
      rw [HX.out]
      exact ⟨_, rfl, HOW.out, HSB.out.bel⟩
theorem scan_any (s : ByteArray) (w : World) (hs : s.size ≤ 140737488355328) (hE : ScanEnv w) : Calls Tryz.prog 16 #[.string s] w (ScanPost w (scanR s.data.toList)) := by
  by_cases h : 4096 < s.size
  · exact scan_long s w hs h
  · exact scan_short s w (by omega) hE
end Go.Proofs.YtckfcpiedainfaaGreatDoor

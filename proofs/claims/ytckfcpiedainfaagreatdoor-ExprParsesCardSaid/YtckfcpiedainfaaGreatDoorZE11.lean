/-
  WALKS over package lex: a token.
-/
import Derived.Test.YtckfcpiedainfaaGreatDoorZE10
import Derived.Deep.RegionHeld3
namespace Go.Proofs.YtckfcpiedainfaaGreatDoor
open Go Go.RowKit
set_option linter.unusedVariables false
/-- the token at a place, or none -/
def TokRes (w : World) (p : Nat) (x : Option Tok × Nat) (e : Ending) (w' : World) : Prop :=
  Below w.heap.size w w' ∧ ∃ k : Tok, e = .returned (.tuple #[tokV k, .int .i64 ((p + x.2 : Nat) : Int), .bool x.1.isSome]) ∧ ∀ k', x.1 = some k' → k = k'
def MadeV (w : World) (v : Value) (e : Ending) (w' : World) : Prop := e = .returned v ∧ Below w.heap.size w w'
/-- a token (or another), the place behind it, and whether it is one -/
def TokAt (w : World) (k : Option Tok) (q : Nat) (b : Bool) (e : Ending) (w' : World) : Prop :=
  Below w.heap.size w w' ∧ ∃ k' : Tok, e = .returned (.tuple #[tokV k', .int .i64 q, .bool b]) ∧ ∀ k0, k = some k0 → k' = k0
structure TokCtx (s : ByteArray) (g : Nat) (w : World) : Prop where
  size : s.size ≤ 4096
  blk : Blk w g 9 #[.string s]
  env : Env w
  lex : LexEnv w
theorem TokCtx.below {s : ByteArray} {g : Nat} {w w' : World} (h : TokCtx s g w) (hb : Below w.heap.size w w') : TokCtx s g w' := ⟨h.size, h.blk.after hb, Env.below h.env hb, h.lex.below hb⟩
/-- the reader's box and the answer's, behind whatever was called -/
structure RB (s : ByteArray) (g : Nat) (w Y : World) : Prop where
  box : Blk Y w.heap.size 77 #[.string s, rdrF g]
  res : Blk Y (w.heap.size + 1) 80 tok0
  bel : Below w.heap.size w Y
theorem RB.start (s : ByteArray) (g : Nat) (w : World) : RB s g w ((w.alloc (.cells #[.string s, rdrF g] 77)).alloc (.cells #[.int .i64 0, .string ⟨#[]⟩, .int .i64 0, .int .i64 0] 80)) :=
  ⟨(Blk.new w _ _).alloc _, Blk.new' (by simp), ((Below.refl _ _).alloc (Nat.le_refl _) _).alloc (by simp) _⟩
theorem RB.after {s : ByteArray} {g : Nat} {w Y Y' : World} (h : RB s g w Y) (hb : Below Y.heap.size Y Y') : RB s g w Y' :=
  ⟨h.box.after hb, h.res.after hb, h.bel.trans (hb.mono h.bel.size)⟩
theorem below_drew1 (w : World) : Below w.heap.size w w.drew := (Below.refl _ _).drew
theorem RB.set4 {s : ByteArray} {g : Nat} {w Y : World} (h : RB s g w Y) (v0 v1 v2 v3 : Value) :
    Blk ((((Y.setCell ⟨w.heap.size + 1, 0, none⟩ v0).setCell ⟨w.heap.size + 1, 1, none⟩ v1).setCell ⟨w.heap.size + 1, 2, none⟩ v2).setCell ⟨w.heap.size + 1, 3, none⟩ v3) (w.heap.size + 1) 80 #[v0, v1, v2, v3]
    ∧ Below w.heap.size w ((((Y.setCell ⟨w.heap.size + 1, 0, none⟩ v0).setCell ⟨w.heap.size + 1, 1, none⟩ v1).setCell ⟨w.heap.size + 1, 2, none⟩ v2).setCell ⟨w.heap.size + 1, 3, none⟩ v3) :=
  ⟨(((h.res.set_ 0 v0).set_ 1 v1).set_ 2 v2).set_ 3 v3, (((h.bel.setCell (p := ⟨w.heap.size + 1, 0, none⟩) (by simp) _).setCell (p := ⟨w.heap.size + 1, 1, none⟩) (by simp) _).setCell (p := ⟨w.heap.size + 1, 2, none⟩) (by simp) _).setCell (p := ⟨w.heap.size + 1, 3, none⟩) (by simp) _⟩
theorem results_row2 {fn : Func} {p u v : Tmp} {ty : TypeId} (h : fn.results = #[.cell p ty, .tmp u, .tmp v]) (tmps : Array Value) (w : World) (g : Nat) (cs : Array Value)
    (hp : tmps.getD p undef = .pointer (some ⟨g, 0, none⟩)) (hl : (loadVar ty ⟨g, 0, none⟩).run Tryz.prog w = .ok (.agg cs) w) :
    (results fn tmps).run Tryz.prog w = .ok (.tuple #[.agg cs, tmps.getD u undef, tmps.getD v undef]) w := by
  have hp' : tmps[p]?.getD undef = .pointer (some ⟨g, 0, none⟩) := by simpa using hp
  simp [results, h, hp', asAddr, hl]
theorem load_tok {w : World} {g : Nat} {a : Int} {b : ByteArray} {c d : Int} (h : Blk w g 80 #[.int .i64 a, .string b, .int .i64 c, .int .i64 d]) :
    (loadVar 80 ⟨g, 0, none⟩).run Tryz.prog w = .ok (.agg #[.int .i64 a, .string b, .int .i64 c, .int .i64 d]) w :=
  run_loadVar_row w g _ _ _ (0, 0) _ h Tryz.underlying80 rfl infoTok
/-- what the walk reads of them -/
structure RBC (s : ByteArray) (g : Nat) (w Y : World) : Prop where
  b0 : Y.cell? ⟨w.heap.size, 0, none⟩ = some (.string s)
  b1 : Y.cell? ⟨w.heap.size, 1, none⟩ = some (.func (.func 48) #[] #[.pointer (some ⟨g, 0, none⟩)])
theorem RB.c {s : ByteArray} {g : Nat} {w Y : World} (h : RB s g w Y) : RBC s g w Y := ⟨h.box.cell 0, h.box.cell 1⟩
theorem RB.s {s : ByteArray} {g : Nat} {w Y : World} (h : RB s g w Y) : Y.cell? ⟨w.heap.size, 0, none⟩ = some (.string s) ∧ Y.cell? ⟨w.heap.size, 1, none⟩ = some (.func (.func 48) #[] #[.pointer (some ⟨g, 0, none⟩)]) := ⟨h.box.cell 0, h.box.cell 1⟩
theorem RB.s4 {s : ByteArray} {g : Nat} {w Y : World} (h : RB s g w Y) (i0 i1 i2 i3 : Nat) (v0 v1 v2 v3 : Value) :
    ((((Y.setCell ⟨w.heap.size + 1, i0, none⟩ v0).setCell ⟨w.heap.size + 1, i1, none⟩ v1).setCell ⟨w.heap.size + 1, i2, none⟩ v2).setCell ⟨w.heap.size + 1, i3, none⟩ v3).cell? ⟨w.heap.size, 0, none⟩ = some (.string s) ∧ ((((Y.setCell ⟨w.heap.size + 1, i0, none⟩ v0).setCell ⟨w.heap.size + 1, i1, none⟩ v1).setCell ⟨w.heap.size + 1, i2, none⟩ v2).setCell ⟨w.heap.size + 1, i3, none⟩ v3).cell? ⟨w.heap.size, 1, none⟩ = some (.func (.func 48) #[] #[.pointer (some ⟨g, 0, none⟩)]) := by
  have hne : w.heap.size ≠ w.heap.size + 1 := by omega
  have b := (((h.box.far (p := ⟨w.heap.size + 1, i0, none⟩) hne v0).far (p := ⟨w.heap.size + 1, i1, none⟩) hne v1).far (p := ⟨w.heap.size + 1, i2, none⟩) hne v2).far (p := ⟨w.heap.size + 1, i3, none⟩) hne v3
  exact ⟨b.cell 0, b.cell 1⟩
set_option maxHeartbeats 1600000 in
theorem token_name (s : ByteArray) (p g q : Nat) (w : World) (hp : p < s.size) (hC : TokCtx s g w) (hpq : p < q) (hqs : q ≤ s.size) (hf : p + far right (s.data.toList.drop p) = q) :
    Calls Tryz.prog 31 #[.agg #[.string s, rdrF g], .int .i64 p] w (TokAt w (some ⟨kindOf ((s.data.toList.drop p).take (q - p)), s.extract p q, 0, 0⟩) q (apart (s.data.toList.drop q))) := by
  have hs := hC.size
  have HF : Hid (∀ w', Below w.heap.size w w' → Calls Tryz.prog 48 #[.int .i64 p, .func (.func 49) #[] #[], .pointer (some ⟨g, 0, none⟩)] w' (Counts w' q)) := Lib.hid fun w' hb => by
    have := farRight_any s p g w' hs (by omega) (hC.blk.after hb)
    rwa [hf] at this
  have HNM : Hid (∀ Y, RB s g w Y → Calls Tryz.prog 50 #[.string (s.extract p q)] Y (MadeV Y (.agg #[.int .i64 (kindOf ((s.data.toList.drop p).take (q - p))), .string (s.extract p q), .int .i64 0, .int .i64 0]))) := Lib.hid fun Y h => by
    have := named_any (s.extract p q) Y (by rw [← toList_eq, Lib.extract_data, List.length_take, List.length_drop, toList_eq]; omega) (hC.lex.below h.bel)
    rw [Lib.extract_data] at this
    exact this
  have HAP : Hid (∀ Y, RB s g w Y → Calls Tryz.prog 51 #[.agg #[.string s, rdrF g], .int .i64 q] Y (Tells1 Y (apart (s.data.toList.drop q)))) := Lib.hid fun Y h => apart_any s (rdrF g) q Y hs hqs
  have HR0 := Lib.hid (RB.start s g w)
  obtain ⟨K, hK⟩ : ∃ K, kindOf ((s.data.toList.drop p).take (q - p)) = K := ⟨_, rfl⟩
  obtain ⟨b, hb⟩ : ∃ b, apart (s.data.toList.drop q) = b := ⟨_, rfl⟩
  rw [hK] at HNM
  rw [hb] at HAP
  rw [hK, hb]
  unfold rdrF at *
  have hp0 : (p : Int) < (q : Int) := by omega
  have hp1 : (0 : Int) ≤ (p : Int) := by omega
  have hp2 : (p : Int) ≤ (q : Int) := by omega
  have hp3 : (q : Int) ≤ (s.size : Int) := by omega
  have hres : Tryz.f31.results = #[.cell 4 80, .tmp 5, .tmp 6] := by kernel_rfl
  clear hC hf hK hb
  go_enter Tryz.func31, Tryz.ntmps31
  go_wp2_with (go_at_call 48; refine (HF.out _ HR0.out.bel).mono ?_; rintro e w1 ⟨rfl, hb1⟩; have HR1 := Lib.hid (HR0.out.after hb1); have HC1 := HR1.out.c; clear hb1)
  go_region_held3 (fun Y => Y.cell? ⟨w.heap.size, 0, none⟩ = some (.string s) ∧ Y.cell? ⟨w.heap.size, 1, none⟩ = some (.func (.func 48) #[] #[.pointer (some ⟨g, 0, none⟩)])) (first | with_reducible exact HR1.out.s | with_reducible exact (HR1.out.after (below_drew1 _)).s | with_reducible exact HR2.out.s | with_reducible exact HR3.out.s | with_reducible exact HR3.out.s4 _ _ _ _ _ _ _ _) ((first | (go_at_call 50; go_must (refine (HNM.out _ (HR1.out.after (below_drew1 _))).mono ?_; rintro e w2 ⟨rfl, hb2⟩; have HR2 := Lib.hid ((HR1.out.after (below_drew1 _)).after hb2); clear hb2)) | (go_at_call 51; go_must (refine (HAP.out _ HR2.out).mono ?_; rintro e w3 ⟨rfl, hb3⟩; have HR3 := Lib.hid (HR2.out.after hb3); have k0 := HR3.out.res.cell 0; have k1 := HR3.out.res.cell 1; have k2 := HR3.out.res.cell 2; have k3 := HR3.out.res.cell 3; have f0 := HR3.out.res.frozen 0; have f1 := HR3.out.res.frozen 1; have f2 := HR3.out.res.frozen 2; have f3 := HR3.out.res.frozen 3; simp [tok0] at k0 k1 k2 k3; clear hb3))))
  all_goals go_wp2_with fail
  all_goals (try simp only [Exit.inBlock, Exit.then])
  all_goals refine bodyPost_ret (results_row2 hres _ _ (w.heap.size + 1) _ rfl (load_tok (HR3.out.set4 _ _ _ _).1)) rfl ?_
  exact ⟨(HR3.out.set4 _ _ _ _).2, _, rfl, fun k0 h => Option.some.inj h⟩
/-- what the reader's closure tells of names and of ints, at any world behind -/
structure Fars (s : ByteArray) (p g a b : Nat) (w : World) : Prop where
  r : ∀ Y, RB s g w Y → Calls Tryz.prog 48 #[.int .i64 p, .func (.func 49) #[] #[], .pointer (some ⟨g, 0, none⟩)] Y (Counts Y a)
  d : ∀ Y, RB s g w Y → Calls Tryz.prog 48 #[.int .i64 p, .func (.func 52) #[] #[], .pointer (some ⟨g, 0, none⟩)] Y (Counts Y b)
theorem fars {s : ByteArray} {p g a b : Nat} {w : World} (hp : p ≤ s.size) (hC : TokCtx s g w) (ha : p + far right (s.data.toList.drop p) = a) (hb : p + far digP (s.data.toList.drop p) = b) : Fars s p g a b w :=
  ⟨fun Y h => by rw [← ha]; exact farRight_any s p g Y hC.size hp (hC.blk.after h.bel),
   fun Y h => by rw [← hb]; exact farDigits_any s p g Y hC.size hp (hC.blk.after h.bel) (hC.env.below h.bel)⟩
theorem RB.put {s : ByteArray} {g : Nat} {w Y : World} (h : RB s g w Y) (a : Int) (b : ByteArray) (c d : Int) :
    Blk (Y.setRow (w.heap.size + 1) #[.int .i64 a, .string b, .int .i64 c, .int .i64 d]) (w.heap.size + 1) 80 #[.int .i64 a, .string b, .int .i64 c, .int .i64 d]
    ∧ Below w.heap.size w (Y.setRow (w.heap.size + 1) #[.int .i64 a, .string b, .int .i64 c, .int .i64 d]) :=
  ⟨setRow_heap _ _ _ _ _ _ h.res, below_setRow h.bel (by omega) _⟩
set_option maxHeartbeats 1600000 in
theorem token_int (s : ByteArray) (p g q : Nat) (w : World) (hp : p < s.size) (hC : TokCtx s g w) (hpq : p < q) (hqs : q ≤ s.size) (hr : far right (s.data.toList.drop p) = 0) (hf : p + far digP (s.data.toList.drop p) = q) :
    Calls Tryz.prog 31 #[.agg #[.string s, rdrF g], .int .i64 p] w (TokAt w (some ⟨1, ba [], (intT ((s.data.toList.drop p).take (q - p))).getD 0, 0⟩) q (apart (s.data.toList.drop q))) := by
  have hs := hC.size
  have HF := fars (s := s) (p := p) (a := p) (b := q) (Nat.le_of_lt hp) hC (by rw [hr]; rfl) hf
  have HNI : Hid (∀ Y, RB s g w Y → Calls Tryz.prog 53 #[.string (s.extract p q)] Y (Numbers Y (intT ((s.data.toList.drop p).take (q - p))))) := Lib.hid fun Y h => by
    have := int_any (s.extract p q) Y (by rw [← toList_eq, Lib.extract_data, List.length_take, List.length_drop, toList_eq]; omega) (hC.env.below h.bel)
    rwa [Lib.extract_data] at this
  have HAP : Hid (∀ Y, RB s g w Y → Calls Tryz.prog 51 #[.agg #[.string s, rdrF g], .int .i64 q] Y (Tells1 Y (apart (s.data.toList.drop q)))) := Lib.hid fun Y h => apart_any s (rdrF g) q Y hs hqs
  have HR0 := Lib.hid (RB.start s g w)
  obtain ⟨b, hb⟩ : ∃ b, apart (s.data.toList.drop q) = b := ⟨_, rfl⟩
  obtain ⟨N, hN⟩ : ∃ N, intT ((s.data.toList.drop p).take (q - p)) = N := ⟨_, rfl⟩
  rw [hN] at HNI
  rw [hb] at HAP
  rw [hN, hb]
  unfold rdrF at *
  have hp0 : (p : Int) < (q : Int) := by omega
  have hp1 : (0 : Int) ≤ (p : Int) := by omega
  have hp2 : (p : Int) ≤ (q : Int) := by omega
  have hp3 : (q : Int) ≤ (s.size : Int) := by omega
  have hres : Tryz.f31.results = #[.cell 4 80, .tmp 5, .tmp 6] := by kernel_rfl
  clear hC hf hb hr hN
  go_enter Tryz.func31, Tryz.ntmps31
  go_wp2_with (first | (go_at_call 48; (with_reducible refine (HF.r _ HR0.out).mono ?_); rintro e w1 ⟨rfl, hb1⟩; have HR1 := Lib.hid (HR0.out.after hb1); have c10 := HR1.out.c.b0; have c11 := HR1.out.c.b1; clear hb1) | (go_at_call 48; (with_reducible refine (HF.d _ HR1.out).mono ?_); rintro e w2 ⟨rfl, hb2⟩; have HR2 := Lib.hid (HR1.out.after hb2); have c20 := HR2.out.c.b0; have c21 := HR2.out.c.b1; clear hb2) | (go_at_call 53; refine (HNI.out _ HR2.out).mono ?_; rintro e w3 ⟨rfl, hb3⟩; have HR3 := Lib.hid (HR2.out.after hb3); have c30 := HR3.out.c.b0; have c31 := HR3.out.c.b1; clear hb3) | (go_at_call 51; refine (HAP.out _ HR3.out).mono ?_; rintro e w4 ⟨rfl, hb4⟩; have HR4 := Lib.hid (HR3.out.after hb4); clear hb4) | ((with_reducible show wpList _ _ _ (Oper.mk _ (Op.store 80 _ _) _ _ _ _ :: _) _ _); refine wpList_store_row rfl _ _ _ rfl (w.heap.size + 1) _ rfl rfl 80 tok0 HR4.out.res infoTok rfl (one_tok _ _ _ _) ?_))
  all_goals (try simp only [Act.put, Exit.inBlock, Exit.then])
  all_goals refine bodyPost_ret (results_row2 hres _ _ (w.heap.size + 1) _ rfl (load_tok (HR4.out.put _ _ _ _).1)) rfl ?_
  all_goals exact ⟨(HR4.out.put _ _ _ _).2, ⟨1, ba [], N.getD 0, 0⟩, rfl, fun k0 h => Option.some.inj h⟩
set_option maxHeartbeats 1600000 in
theorem token_text (s : ByteArray) (p g : Nat) (l : List UInt8) (n : Nat) (c : Int) (w : World) (hp : p < s.size) (hC : TokCtx s g w) (h34 : s[p].toNat = 34) (hr : far right (s.data.toList.drop p) = 0) (hd : far digP (s.data.toList.drop p) = 0) (hu : unq s p = (l, (n : Int), c)) :
    Calls Tryz.prog 31 #[.agg #[.string s, rdrF g], .int .i64 p] w (TokAt w (some ⟨2, ba l, 0, 0⟩) n (c == 0)) := by
  have hs := hC.size
  have HF := fars (s := s) (p := p) (a := p) (b := p) (Nat.le_of_lt hp) hC (by rw [hr]; rfl) (by rw [hd]; rfl)
  have HU : Hid (∀ Y, Calls Tryz.prog 54 #[.string s, .int .i64 p] Y (fun e w' => e = .returned (.tuple #[.string (ba l), .int .i64 n, .int .i64 c]) ∧ Below Y.heap.size Y w')) := Lib.hid fun Y => by
    have := unquote_any s p Y (by omega)
    rw [hu] at this
    exact this
  have HR0 := Lib.hid (RB.start s g w)
  unfold rdrF at *
  have d1 : ((s[p].toNat : Int) == 34) = true := by rw [beq_iff_eq]; omega
  have hp1 : (0 : Int) ≤ (p : Int) := by omega
  have hp3 : (p : Int) < (s.size : Int) := by omega
  have hres : Tryz.f31.results = #[.cell 4 80, .tmp 5, .tmp 6] := by kernel_rfl
  clear hC hr hd hu h34
  go_enter Tryz.func31, Tryz.ntmps31
  go_wp2_with (first | (go_at_call 48; (with_reducible refine (HF.r _ HR0.out).mono ?_); rintro e w1 ⟨rfl, hb1⟩; have HR1 := Lib.hid (HR0.out.after hb1); have c10 := HR1.out.c.b0; have c11 := HR1.out.c.b1; clear hb1) | (go_at_call 48; (with_reducible refine (HF.d _ HR1.out).mono ?_); rintro e w2 ⟨rfl, hb2⟩; have HR2 := Lib.hid (HR1.out.after hb2); have c20 := HR2.out.c.b0; have c21 := HR2.out.c.b1; clear hb2) | (go_at_call 54; refine (HU.out _).mono ?_; rintro e w3 ⟨rfl, hb3⟩; have HR3 := Lib.hid (HR2.out.after hb3); clear hb3) | ((with_reducible show wpList _ _ _ (Oper.mk _ (Op.store 80 _ _) _ _ _ _ :: _) _ _); refine wpList_store_row rfl _ _ _ rfl (w.heap.size + 1) _ rfl rfl 80 tok0 HR3.out.res infoTok rfl (one_tok _ _ _ _) ?_))
  all_goals (try simp only [Act.put, Exit.inBlock, Exit.then])
  all_goals refine bodyPost_ret (results_row2 hres _ _ (w.heap.size + 1) _ rfl (load_tok (HR3.out.put _ _ _ _).1)) rfl ?_
  all_goals exact ⟨(HR3.out.put _ _ _ _).2, ⟨2, ba l, 0, 0⟩, rfl, fun k0 h => Option.some.inj h⟩
set_option maxHeartbeats 1600000 in
theorem token_none (s : ByteArray) (p g n : Nat) (w : World) (hp : p < s.size) (hC : TokCtx s g w) (h34 : s[p].toNat ≠ 34) (hr : far right (s.data.toList.drop p) = 0) (hd : far digP (s.data.toList.drop p) = 0) (ha : ahead (s.data.toList.drop p) = ([], n)) :
    Calls Tryz.prog 31 #[.agg #[.string s, rdrF g], .int .i64 p] w (TokAt w none (p + n) false) := by
  have hs := hC.size
  have hn : n ≤ 4096 := by
    have := (ahead_is (s.data.toList.drop p)).far.le
    rw [ha, List.length_drop, toList_eq] at this; omega
  have HF := fars (s := s) (p := p) (a := p) (b := p) (Nat.le_of_lt hp) hC (by rw [hr]; rfl) (by rw [hd]; rfl)
  have HM : Hid (∀ Y, RB s g w Y → Calls Tryz.prog 55 #[.string (s.extract p s.size)] Y (fun e w' => e = .returned (.tuple #[.string ⟨#[]⟩, .int .i64 n]) ∧ ∃ q, w' = Y.drewN q)) := Lib.hid fun Y h => by
    have := markAhead_any (s.extract p s.size) Y (by rw [← toList_eq, Lib.extract_data, List.length_take, List.length_drop, toList_eq]; unfold maxLen; omega) (hC.lex.below h.bel)
    rw [Lib.extract_data, List.take_of_length_le (by rw [List.length_drop, toList_eq]; omega), ha] at this
    exact this
  have HR0 := Lib.hid (RB.start s g w)
  unfold rdrF at *
  have d1 : ((s[p].toNat : Int) == 34) = false := by rw [beq_eq_false_iff_ne]; omega
  have hp1 : (0 : Int) ≤ (p : Int) := by omega
  have hp3 : (p : Int) < (s.size : Int) := by omega
  have hp4 : (p : Int) ≤ (s.size : Int) := by omega
  have hres : Tryz.f31.results = #[.cell 4 80, .tmp 5, .tmp 6] := by kernel_rfl
  clear hC hr hd ha h34
  go_enter Tryz.func31, Tryz.ntmps31
  go_wp2_with (first | (go_at_call 48; (with_reducible refine (HF.r _ HR0.out).mono ?_); rintro e w1 ⟨rfl, hb1⟩; have HR1 := Lib.hid (HR0.out.after hb1); have c10 := HR1.out.c.b0; have c11 := HR1.out.c.b1; clear hb1) | (go_at_call 48; (with_reducible refine (HF.d _ HR1.out).mono ?_); rintro e w2 ⟨rfl, hb2⟩; have HR2 := Lib.hid (HR1.out.after hb2); have c20 := HR2.out.c.b0; have c21 := HR2.out.c.b1; clear hb2) | (go_at_call 55; refine (HM.out _ HR2.out).mono ?_; rintro e w3 ⟨rfl, q3, rfl⟩; have HR3 := Lib.hid (HR2.out.after (below_drewN (Below.refl _ _) q3))) | ((with_reducible show wpList _ _ _ (Oper.mk _ (Op.store 80 _ _) _ _ _ _ :: _) _ _); refine wpList_store_row rfl _ _ _ rfl (w.heap.size + 1) _ rfl rfl 80 tok0 HR3.out.res infoTok rfl (one_tok _ _ _ _) ?_))
  all_goals (try simp only [Act.put, Exit.inBlock, Exit.then])
  all_goals refine bodyPost_ret (results_row2 hres _ _ (w.heap.size + 1) _ rfl (load_tok (HR3.out.put _ _ _ _).1)) rfl ?_
  all_goals exact ⟨(HR3.out.put _ _ _ _).2, ⟨0, ba [], 0, 0⟩, rfl, fun k0 h => by cases h⟩
set_option maxHeartbeats 1600000 in
theorem token_mark (s : ByteArray) (p g n : Nat) (m : List UInt8) (w : World) (hp : p < s.size) (hC : TokCtx s g w) (h34 : s[p].toNat ≠ 34) (hr : far right (s.data.toList.drop p) = 0) (hd : far digP (s.data.toList.drop p) = 0) (ha : ahead (s.data.toList.drop p) = (m, n)) (hm : m ≠ []) :
    Calls Tryz.prog 31 #[.agg #[.string s, rdrF g], .int .i64 p] w (TokAt w (some ⟨5, ba m, 0, 0⟩) (p + m.length) true) := by
  have hs := hC.size
  have HF := fars (s := s) (p := p) (a := p) (b := p) (Nat.le_of_lt hp) hC (by rw [hr]; rfl) (by rw [hd]; rfl)
  obtain ⟨M, hM⟩ : ∃ M, ba m = M := ⟨_, rfl⟩
  have hMs : M.size = m.length := by rw [← hM, ← toList_eq, ba_data]
  have hm2 : m.length ≤ 2 := by
    have h := ahead_is (s.data.toList.drop p)
    have hy := h.yes
    have hno := h.no
    rw [ha] at hy hno
    cases hq : markB ((s.data.toList.drop p).take n) with
    | true =>
      have e : m = (s.data.toList.drop p).take n := hy hq
      rw [e]
      have : ∀ x ∈ marksL, x.length ≤ 2 := fun x hx => (marks_two x hx).1
      exact this _ (by simpa [markB] using hq)
    | false => exact absurd (hno hq) hm
  have HM : Hid (∀ Y, RB s g w Y → Calls Tryz.prog 55 #[.string (s.extract p s.size)] Y (fun e w' => e = .returned (.tuple #[.string M, .int .i64 n]) ∧ ∃ q, w' = Y.drewN q)) := Lib.hid fun Y h => by
    have := markAhead_any (s.extract p s.size) Y (by rw [← toList_eq, Lib.extract_data, List.length_take, List.length_drop, toList_eq]; unfold maxLen; omega) (hC.lex.below h.bel)
    rw [Lib.extract_data, List.take_of_length_le (by rw [List.length_drop, toList_eq]; omega), ha] at this
    rw [← hM]
    exact this
  have e1 : (M.toList == []) = false := by rw [nil_test, ← hM, ba_data]; simpa using hm
  have HR0 := Lib.hid (RB.start s g w)
  rw [hM, ← hMs]
  rw [← hMs] at hm2
  unfold rdrF at *
  have d1 : ((s[p].toNat : Int) == 34) = false := by rw [beq_eq_false_iff_ne]; omega
  have hp1 : (0 : Int) ≤ (p : Int) := by omega
  have hp3 : (p : Int) < (s.size : Int) := by omega
  have hp4 : (p : Int) ≤ (s.size : Int) := by omega
  have hres : Tryz.f31.results = #[.cell 4 80, .tmp 5, .tmp 6] := by kernel_rfl
  clear hC hr hd ha h34 hM hMs hm
  go_enter Tryz.func31, Tryz.ntmps31
  go_wp2_with (first | (go_at_call 48; (with_reducible refine (HF.r _ HR0.out).mono ?_); rintro e w1 ⟨rfl, hb1⟩; have HR1 := Lib.hid (HR0.out.after hb1); have c10 := HR1.out.c.b0; have c11 := HR1.out.c.b1; clear hb1) | (go_at_call 48; (with_reducible refine (HF.d _ HR1.out).mono ?_); rintro e w2 ⟨rfl, hb2⟩; have HR2 := Lib.hid (HR1.out.after hb2); have c20 := HR2.out.c.b0; have c21 := HR2.out.c.b1; clear hb2) | (go_at_call 55; refine (HM.out _ HR2.out).mono ?_; rintro e w3 ⟨rfl, q3, rfl⟩; have HR3 := Lib.hid (HR2.out.after (below_drewN (Below.refl _ _) q3))) | ((with_reducible show wpList _ _ _ (Oper.mk _ (Op.store 80 _ _) _ _ _ _ :: _) _ _); refine wpList_store_row rfl _ _ _ rfl (w.heap.size + 1) _ rfl rfl 80 tok0 HR3.out.res infoTok rfl (one_tok _ _ _ _) ?_))
  all_goals (try simp only [Act.put, Exit.inBlock, Exit.then])
  all_goals refine bodyPost_ret (results_row2 hres _ _ (w.heap.size + 1) _ rfl (load_tok (HR3.out.put _ _ _ _).1)) rfl ?_
  all_goals exact ⟨(HR3.out.put _ _ _ _).2, ⟨5, M, 0, 0⟩, rfl, fun k0 h => Option.some.inj h⟩
end Go.Proofs.YtckfcpiedainfaaGreatDoor

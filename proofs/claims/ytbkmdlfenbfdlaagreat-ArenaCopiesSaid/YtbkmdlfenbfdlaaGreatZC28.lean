/-
  WALKS: a copy is what it was made of, node for node; nothing else is another one.
-/
import Derived.Test.YtbkmdlfenbfdlaaGreatZC27
import Derived.Deep.RegionHeld3
import Derived.Deep.CutBlock
namespace Go.Proofs.YtbkmdlfenbfdlaaGreat
open Go Go.RowKit Go.Sort
set_option linter.unusedVariables false
attribute [local go_sem ↓] Go.wp_at_zero Go.wp_at_succ
theorem list_atK {X : World} {B c KK : Nat} {A : Option Addr} {L : List Int} {k : Nat} {y : Int} (h : X.ownsRow B 3 1 (.slice A KK c) KK (intCells L)) (hl : L.length = KK) (hk : L[k]? = some y) :
    ∃ g, A = some ⟨g, 0, none⟩ ∧ KK ≤ c ∧ c ≤ maxLen ∧ ∀ Y : World, Y.ownsRow B 3 1 (.slice (some ⟨g, 0, none⟩) KK c) KK (intCells L) → Y.cell? ⟨g, k, none⟩ = some (.int .i64 y) := by
  subst hl
  exact list_at h hk
theorem refs_atK {X : World} {B c R : Nat} {A : Option Addr} {L : List (ByteArray × Int)} {k : Nat} {r : ByteArray × Int} (h : X.ownsRow B 60 2 (.slice A R c) R (refCells L)) (hl : L.length = R) (hk : L[k]? = some r) :
    ∃ g, A = some ⟨g, 0, none⟩ ∧ R ≤ c ∧ c ≤ maxLen ∧ ∀ Y : World, Y.ownsRow B 60 2 (.slice (some ⟨g, 0, none⟩) R c) R (refCells L) → Y.cell? ⟨g, k * 2, none⟩ = some (.string r.1) ∧ Y.cell? ⟨g, k * 2 + 1, none⟩ = some (.int .i64 r.2) := by
  have hr := own_row h
  have hkl := (List.getElem?_eq_some_iff.1 hk).1
  rcases h.2 with ⟨hv, h0⟩ | ⟨g, cap, cur, hv, _⟩
  · omega
  · injection hv with hA _ _
    refine ⟨g, hA, hr.2.1, hr.2.2.1, fun Y hY => ?_⟩
    have h1 := World.ownsRow.cellAt hY (k * 2) (by omega)
    have h2 := World.ownsRow.cellAt hY (k * 2 + 1) (by omega)
    rw [h1, h2]
    exact refCells_get hk
theorem own_one (X : World) (id : Int) : (X.alloc (.cells #[.int .i64 id] 3)).ownsRow X.heap.size 3 1 (.slice (some ⟨X.heap.size, 0, none⟩) 1 1) 1 (intCells [id]) :=
  ⟨rfl, .inr ⟨X.heap.size, 1, #[.int .i64 id], rfl, Nat.le_refl _, Blk.new _ _ _, Nat.le_refl _, by unfold maxLen; omega, rfl, rfl⟩⟩
theorem own_cons {X : World} {B KK : Nat} {v : Value} {id : Int} {lb S : List Int} (h : X.ownsRow B 3 1 v (1 + lb.length) (intCells [id] ++ intCells lb)) (hS : id :: lb = S) (hK : S.length = KK) : X.ownsRow 0 3 1 v KK (intCells S) := by
  subst hK
  subst hS
  have e : intCells (id :: lb) = intCells [id] ++ intCells lb := by simp [intCells]
  rw [e, List.length_cons, Nat.add_comm lb.length 1]
  exact own_mono h (Nat.zero_le _)
/-- the boxes, with the one of the model that was copied in -/
structure CX (w : World) (ac : Array Value) (g5 : Nat) (next : Int) (nds : List Nd) (A : Option Addr) (n c : Nat) (l : List (Nd × Leaf)) (g10 : Nat) (N : Int) (A3 : Option Addr) (n3 c3 : Nat) (l3 : List (Nd × Leaf)) (Xs : List Nd) (X : World) : Prop where
  f : F3 w ac g5 next nds A n c l X
  b : Blk X g10 26 #[.int .i64 N, .slice A3 n3 c3]
  o : OwnM X 0 (.slice A3 n3 c3) l3
  lx : l3.length = n3
  mx : l3.map (·.1) = Xs
/-- .. and the lists of the numbers -/
structure CI (w : World) (ac : Array Value) (g5 : Nat) (next : Int) (nds : List Nd) (A : Option Addr) (n c : Nat) (l : List (Nd × Leaf)) (g10 : Nat) (N : Int) (A3 : Option Addr) (n3 c3 : Nat) (l3 : List (Nd × Leaf)) (Xs : List Nd) (KK : Nat) (AO : Option Addr) (cO : Nat) (S : List Int) (AZ : Option Addr) (cZ : Nat) (Z : List Int) (X : World) : Prop where
  x : CX w ac g5 next nds A n c l g10 N A3 n3 c3 l3 Xs X
  s : X.ownsRow 0 3 1 (.slice AO KK cO) KK (intCells S)
  z : X.ownsRow 0 3 1 (.slice AZ KK cZ) KK (intCells Z)
section
variable {w X X' : World} {ac : Array Value} {g5 : Nat} {next N : Int} {nds Xs : List Nd} {A A3 AO AZ : Option Addr} {n c g10 n3 c3 KK cO cZ : Nat} {l l3 : List (Nd × Leaf)} {S Z : List Int}
theorem CX.after (h : CX w ac g5 next nds A n c l g10 N A3 n3 c3 l3 Xs X) (hb : Below X.heap.size X X') : CX w ac g5 next nds A n c l g10 N A3 n3 c3 l3 Xs X' := ⟨h.f.after hb, h.b.after hb, h.o.after hb, h.lx, h.mx⟩
theorem CX.nx (h : CX w ac g5 next nds A n c l g10 N A3 n3 c3 l3 Xs X) : NodesIn X 0 X.heap.size A3 n3 c3 Xs := by
  rw [← h.mx]; exact (h.o.nodesIn h.lx).mono (Nat.zero_le _) (Nat.le_refl _)
theorem CI.after (h : CI w ac g5 next nds A n c l g10 N A3 n3 c3 l3 Xs KK AO cO S AZ cZ Z X) (hb : Below X.heap.size X X') : CI w ac g5 next nds A n c l g10 N A3 n3 c3 l3 Xs KK AO cO S AZ cZ Z X' := ⟨h.x.after hb, own_after h.s hb, own_after h.z hb⟩
/-- a new box of a node is laid -/
theorem lay7 {Y0 X : World} {g B : Nat} {nd : Nd} {M : Leaf} (hb : Below Y0.heap.size Y0 X) (hg : Blk X g 41 #[.int .i64 0, .string ⟨#[]⟩, .int .i64 0, .string ⟨#[]⟩, .slice none 0 0, .slice none 0 0, .slice none 0 0]) (hle : Y0.heap.size ≤ g) (hl : OwnLeaf X B nd M) (u0 u1 u2 u3 u4 u5 u6 : Value) :
    Below Y0.heap.size Y0 (((((((X.setCell ⟨g, 0, none⟩ u0).setCell ⟨g, 1, none⟩ u1).setCell ⟨g, 2, none⟩ u2).setCell ⟨g, 3, none⟩ u3).setCell ⟨g, 4, none⟩ u4).setCell ⟨g, 5, none⟩ u5).setCell ⟨g, 6, none⟩ u6) ∧ Blk (((((((X.setCell ⟨g, 0, none⟩ u0).setCell ⟨g, 1, none⟩ u1).setCell ⟨g, 2, none⟩ u2).setCell ⟨g, 3, none⟩ u3).setCell ⟨g, 4, none⟩ u4).setCell ⟨g, 5, none⟩ u5).setCell ⟨g, 6, none⟩ u6) g 41 #[u0, u1, u2, u3, u4, u5, u6] ∧ OwnLeaf (((((((X.setCell ⟨g, 0, none⟩ u0).setCell ⟨g, 1, none⟩ u1).setCell ⟨g, 2, none⟩ u2).setCell ⟨g, 3, none⟩ u3).setCell ⟨g, 4, none⟩ u4).setCell ⟨g, 5, none⟩ u5).setCell ⟨g, 6, none⟩ u6) B nd M := by
  have g0 := hg.set_ 0 u0
  have g1 := g0.set_ 1 u1
  have g2 := g1.set_ 2 u2
  have g3 := g2.set_ 3 u3
  have g4 := g3.set_ 4 u4
  have g5 := g4.set_ 5 u5
  have g6 := g5.set_ 6 u6
  refine ⟨((((((hb.setCell (p := ⟨g, 0, none⟩) hle u0).setCell (p := ⟨g, 1, none⟩) hle u1).setCell (p := ⟨g, 2, none⟩) hle u2).setCell (p := ⟨g, 3, none⟩) hle u3).setCell (p := ⟨g, 4, none⟩) hle u4).setCell (p := ⟨g, 5, none⟩) hle u5).setCell (p := ⟨g, 6, none⟩) hle u6, by simpa using g6, ?_⟩
  exact (((((((hl.other hg (by decide) (by decide) (by decide) 0 u0).other g0 (by decide) (by decide) (by decide) 1 u1).other g1 (by decide) (by decide) (by decide) 2 u2).other g2 (by decide) (by decide) (by decide) 3 u3).other g3 (by decide) (by decide) (by decide) 4 u4).other g4 (by decide) (by decide) (by decide) 5 u5).other g5 (by decide) (by decide) (by decide) 6 u6)
end
/-- a node's box, and its lists -/
def NdBox (X : World) (g : Nat) (nd : Nd) (M : Leaf) : Prop := Blk X g 41 #[.int .i64 nd.id, .string nd.con, .int .i64 nd.par, .string nd.role, .slice M.p.A M.p.n M.p.c, .slice M.k.A M.k.n M.k.c, .slice M.r.A M.r.n M.r.c] ∧ OwnLeaf X 0 nd M
theorem NdBox.after {X X' : World} {g : Nat} {nd : Nd} {M : Leaf} (h : NdBox X g nd M) (hb : Below X.heap.size X X') : NdBox X' g nd M := ⟨h.1.after hb, h.2.after hb⟩
/-- the first loop's body -/
def firstLoop : Code → Option Code
  | .loop c => some c
  | .seq a b => match firstLoop a with
    | some c => some c
    | none => firstLoop b
  | .block _ c => firstLoop c
  | .scope c => firstLoop c
  | .cond _ a b => match firstLoop a with
    | some c => some c
    | none => firstLoop b
  | _ => none
noncomputable def copiesBody : Code := ((Tryz.f5.body.bind firstLoop).getD .skip)
set_option maxRecDepth 20000 in
set_option maxHeartbeats 3200000 in
/-- a round: one node of the part is held against its copy -/
theorem copies_round {w : World} {x : Ac} {g5 : Nat} {next : Int} {nds : List Nd} {A : Option Addr} {n c : Nat} {l : List (Nd × Leaf)} {g10 : Nat} {A3 : Option Addr} {n3 c3 : Nat} {l3 : List (Nd × Leaf)} {Xs : List Nd} {KK : Nat} {AO : Option Addr} {cO : Nat} {S : List Int} {AZ : Option Addr} {cZ : Nat} {Z : List Int} {id y : Int} {rl : ByteArray} {i : Nat} {wr : World} {fr0 fr1 fr2 fr3 fr4 fr6 fr9 fr12 fr16 fr17 fr18 fr19 fr20 fr21 fr22 fr23 fr24 fr25 fr26 fr27 fr28 fr29 fr30 fr31 fr32 fr33 fr34 fr35 fr36 fr37 fr38 fr39 fr40 fr41 fr42 fr43 fr44 fr45 fr46 fr47 fr48 fr49 fr50 fr51 fr52 fr53 fr54 fr55 fr56 fr57 fr58 fr59 fr60 fr61 fr62 fr63 fr64 fr65 fr66 fr67 fr68 fr69 fr70 fr71 fr72 fr73 fr74 fr75 fr76 fr77 fr78 fr79 fr80 fr81 fr82 fr83 fr84 fr85 fr86 fr87 fr88 fr89 fr90 fr91 fr92 fr93 fr94 fr95 fr96 fr97 fr98 fr99 fr100 fr101 fr102 fr103 fr104 fr105 fr106 fr107 fr108 fr109 fr110 fr111 fr112 fr113 fr114 fr115 fr116 fr117 fr118 fr119 fr120 fr121 fr122 fr123 fr124 fr125 fr126 fr127 fr128 fr129 fr130 fr131 fr132 fr133 fr134 fr135 fr136 fr137 fr138 fr139 fr140 fr141 fr142 fr143 fr144 fr145 fr146 fr147 fr148 fr149 fr150 fr151 fr152 fr153 fr154 fr155 fr156 fr157 fr158 fr159 fr160 fr161 fr162 fr163 fr164 fr165 fr166 fr167 fr168 fr169 fr170 fr171 fr172 fr173 fr174 fr175 fr176 fr177 fr178 fr179 fr180 fr181 fr182 fr183 fr184 fr185 fr186 fr187 fr188 fr189 fr190 fr191 fr192 fr193 fr194 fr195 fr196 fr197 fr198 fr199 fr200 fr201 fr202 fr203 fr204 fr205 fr206 fr207 fr208 fr209 fr210 fr211 fr212 fr213 fr214 fr215 fr216 fr217 fr218 fr219 fr220 fr221 fr222 fr223 fr224 fr225 fr226 fr227 fr228 fr229 fr230 fr231 fr232 fr233 fr234 fr235 fr236 fr237 fr238 fr239 fr240 fr241 fr242 fr243 fr244 fr245 fr246 fr247 fr248 fr249 fr250 fr251 fr252 fr253 fr254 fr255 fr256 fr257 fr258 fr259 fr260 fr261 fr262 fr263 fr264 fr265 fr266 : Value}
    (hN : next + (KK : Int) ≤ 1048577 ∧ 1 ≤ next ∧ KK ≤ 4096 ∧ nds.length = n ∧ Xs.length = n + KK ∧ n ≤ 4096) (hKl : S.length = KK) (hZl : Z.length = KK) (hZa : ∀ i, i < KK → Z[i]? = some (next + (i : Int))) (hCS : CopyS next nds id y rl S Xs)
    (hFi : ∀ A n c X, NodesIn X 0 X.heap.size A n c nds → ∀ z nd, ndOf nds z = some nd → Calls Tryz.prog 13 #[.agg #[.int .i64 next, .slice A n c], .int .i64 z] X (FindIs X (nd, true)))
    (hFx : ∀ X (A3 : Option Addr) (n3 c3 : Nat), NodesIn X 0 X.heap.size A3 n3 c3 Xs → ∀ z nd, ndOf Xs z = some nd → Calls Tryz.prog 13 #[.agg #[.int .i64 (next + (KK : Int)), .slice A3 n3 c3], .int .i64 z] X (FindIs X (nd, true)))
    (hlt : i < KK) (hI : CI w x.cells g5 next nds A n c l g10 (next + (KK : Int)) A3 n3 c3 l3 Xs KK AO cO S AZ cZ Z wr) (Q : Exit → Act → World → Prop) (hPn : ∀ x (a a' : Act) (w : World), Q (.panic x) a w → a.defers = a'.defers → Q (.panic x) a' w)
    (hQ : ∀ (wx : World) (v15 : Value), v15 = .int .i64 ((i + 1 : Nat) : Int) → ∀ fw4 fw16 fw17 fw18 fw19 fw20 fw21 fw22 fw115 fw116 fw117 fw118 fw119 fw120 fw121 fw122 fw123 fw124 fw125 fw126 fw127 fw128 fw129 fw130 fw131 fw132 fw133 fw134 fw135 fw136 fw137 fw138 fw139 fw140 fw141 fw142 fw143 fw144 fw145 fw146 fw147 fw148 fw149 fw150 fw151 fw152 fw153 fw154 fw155 fw156 fw157 fw158 fw159 fw160 fw161 fw162 fw163 fw164 fw165 fw166 fw167 fw168 fw169 fw170 fw171 fw172 fw173 fw174 fw175 fw176 fw177 fw178 fw179 fw180 fw181 fw182 fw183 fw184 fw185 fw186 fw187 fw188 fw189 fw190 fw191 fw192 fw193 fw194 fw195 fw196 fw197 fw198 fw199 fw200 fw201 fw202 fw203 fw204 fw205 fw206 fw207 fw208 fw209 fw210 fw211 fw212 fw213 fw214 fw215 fw216 fw217 fw218 fw219 fw220 fw221 fw222 fw223 fw224 fw225 fw226 fw227 fw228 fw229 fw230 fw231 fw232 fw233 fw234 fw235 fw236 fw237 fw238 fw239 fw240 fw241 fw242 fw243 fw244 fw245 fw246 fw247 fw248 fw249 fw250 : Value, CI w x.cells g5 next nds A n c l g10 (next + (KK : Int)) A3 n3 c3 l3 Xs KK AO cO S AZ cZ Z wx → Q .normal ⟨#[fr0, fr1, fr2, fr3, fw4, .pointer (some ⟨g5, 0, none⟩), fr6, .int .i64 y, .string rl, fr9, .pointer (some ⟨g10, 0, none⟩), .int .i64 next, fr12, .slice AO KK cO, .slice AZ KK cZ, v15, fw16, fw17, fw18, fw19, fw20, fw21, fw22, fr23, fr24, fr25, fr26, fr27, fr28, fr29, fr30, fr31, fr32, fr33, fr34, fr35, fr36, fr37, fr38, fr39, fr40, fr41, fr42, fr43, fr44, fr45, fr46, fr47, fr48, fr49, fr50, fr51, fr52, fr53, fr54, fr55, fr56, fr57, fr58, fr59, fr60, fr61, fr62, fr63, fr64, fr65, fr66, fr67, fr68, fr69, fr70, fr71, fr72, fr73, fr74, fr75, fr76, fr77, fr78, fr79, fr80, fr81, fr82, fr83, fr84, fr85, fr86, fr87, fr88, fr89, fr90, fr91, fr92, fr93, fr94, fr95, fr96, fr97, fr98, fr99, fr100, fr101, fr102, fr103, fr104, fr105, fr106, fr107, fr108, fr109, fr110, fr111, fr112, fr113, fr114, fw115, fw116, fw117, fw118, fw119, fw120, fw121, fw122, fw123, fw124, fw125, fw126, fw127, fw128, fw129, fw130, fw131, fw132, fw133, fw134, fw135, fw136, fw137, fw138, fw139, fw140, fw141, fw142, fw143, fw144, fw145, fw146, fw147, fw148, fw149, fw150, fw151, fw152, fw153, fw154, fw155, fw156, fw157, fw158, fw159, fw160, fw161, fw162, fw163, fw164, fw165, fw166, fw167, fw168, fw169, fw170, fw171, fw172, fw173, fw174, fw175, fw176, fw177, fw178, fw179, fw180, fw181, fw182, fw183, fw184, fw185, fw186, fw187, fw188, fw189, fw190, fw191, fw192, fw193, fw194, fw195, fw196, fw197, fw198, fw199, fw200, fw201, fw202, fw203, fw204, fw205, fw206, fw207, fw208, fw209, fw210, fw211, fw212, fw213, fw214, fw215, fw216, fw217, fw218, fw219, fw220, fw221, fw222, fw223, fw224, fw225, fw226, fw227, fw228, fw229, fw230, fw231, fw232, fw233, fw234, fw235, fw236, fw237, fw238, fw239, fw240, fw241, fw242, fw243, fw244, fw245, fw246, fw247, fw248, fw249, fw250, fr251, fr252, fr253, fr254, fr255, fr256, fr257, fr258, fr259, fr260, fr261, fr262, fr263, fr264, fr265, fr266], []⟩ wx) :
    Code.wp Tryz.prog copiesBody Q ⟨#[fr0, fr1, fr2, fr3, fr4, .pointer (some ⟨g5, 0, none⟩), fr6, .int .i64 y, .string rl, fr9, .pointer (some ⟨g10, 0, none⟩), .int .i64 next, fr12, .slice AO KK cO, .slice AZ KK cZ, .int .i64 (i : Int), fr16, fr17, fr18, fr19, fr20, fr21, fr22, fr23, fr24, fr25, fr26, fr27, fr28, fr29, fr30, fr31, fr32, fr33, fr34, fr35, fr36, fr37, fr38, fr39, fr40, fr41, fr42, fr43, fr44, fr45, fr46, fr47, fr48, fr49, fr50, fr51, fr52, fr53, fr54, fr55, fr56, fr57, fr58, fr59, fr60, fr61, fr62, fr63, fr64, fr65, fr66, fr67, fr68, fr69, fr70, fr71, fr72, fr73, fr74, fr75, fr76, fr77, fr78, fr79, fr80, fr81, fr82, fr83, fr84, fr85, fr86, fr87, fr88, fr89, fr90, fr91, fr92, fr93, fr94, fr95, fr96, fr97, fr98, fr99, fr100, fr101, fr102, fr103, fr104, fr105, fr106, fr107, fr108, fr109, fr110, fr111, fr112, fr113, fr114, fr115, fr116, fr117, fr118, fr119, fr120, fr121, fr122, fr123, fr124, fr125, fr126, fr127, fr128, fr129, fr130, fr131, fr132, fr133, fr134, fr135, fr136, fr137, fr138, fr139, fr140, fr141, fr142, fr143, fr144, fr145, fr146, fr147, fr148, fr149, fr150, fr151, fr152, fr153, fr154, fr155, fr156, fr157, fr158, fr159, fr160, fr161, fr162, fr163, fr164, fr165, fr166, fr167, fr168, fr169, fr170, fr171, fr172, fr173, fr174, fr175, fr176, fr177, fr178, fr179, fr180, fr181, fr182, fr183, fr184, fr185, fr186, fr187, fr188, fr189, fr190, fr191, fr192, fr193, fr194, fr195, fr196, fr197, fr198, fr199, fr200, fr201, fr202, fr203, fr204, fr205, fr206, fr207, fr208, fr209, fr210, fr211, fr212, fr213, fr214, fr215, fr216, fr217, fr218, fr219, fr220, fr221, fr222, fr223, fr224, fr225, fr226, fr227, fr228, fr229, fr230, fr231, fr232, fr233, fr234, fr235, fr236, fr237, fr238, fr239, fr240, fr241, fr242, fr243, fr244, fr245, fr246, fr247, fr248, fr249, fr250, fr251, fr252, fr253, fr254, fr255, fr256, fr257, fr258, fr259, fr260, fr261, fr262, fr263, fr264, fr265, fr266], []⟩ wr := by
  have HN := Lib.hid hN
  have HKl := Lib.hid hKl
  have HZl := Lib.hid hZl
  have HZa := Lib.hid hZa
  have HCS := Lib.hid hCS
  have HFi := Lib.hid hFi
  have HFx := Lib.hid hFx
  have HI := Lib.hid hI
  have HQe := Lib.hid hQ
  have hKK := hN.2.2.1
  have hrow := own_row HI.out.s
  have hnc := hrow.2.1
  have hcm := hrow.2.2.1
  unfold maxLen at hcm
  clear hrow hN hKl hZl hZa hCS hFi hFx hI hQ
  conv => arg 2; whnf
  obtain ⟨yy, hyy⟩ : ∃ yy, S[i]? = some yy := ⟨S[i]'(by have := HKl.out; omega), List.getElem?_eq_getElem _⟩
  obtain ⟨nd, qn, hnd, hqn, e1, e2, e3, e4, e5⟩ := HCS.out.node hyy
  obtain ⟨gO, hAO, hO1, hO2, hOc⟩ := list_atK HI.out.s HKl.out hyy
  obtain ⟨gZ, hAZ, hZ1, hZ2, hZc⟩ := list_atK HI.out.z HZl.out (HZa.out i hlt)
  subst hAO
  subst hAZ
  have HSp : Hid (∀ X, CI w x.cells g5 next nds A n c l g10 (next + (KK : Int)) A3 n3 c3 l3 Xs KK (some ⟨gO, 0, none⟩) cO S (some ⟨gZ, 0, none⟩) cZ Z X → X.cell? ⟨g5, 0, none⟩ = some (.int .i64 next) ∧ X.cell? ⟨g5, 1, none⟩ = some (.slice A n c) ∧ X.cell? ⟨gO, i, none⟩ = some (.int .i64 yy)) := Lib.hid fun X hX => ⟨(hX.x.f.m.cell 0).trans rfl, (hX.x.f.m.cell 1).trans rfl, hOc X hX.s⟩
  have HSq : Hid (∀ X, CI w x.cells g5 next nds A n c l g10 (next + (KK : Int)) A3 n3 c3 l3 Xs KK (some ⟨gO, 0, none⟩) cO S (some ⟨gZ, 0, none⟩) cZ Z X → X.cell? ⟨g10, 0, none⟩ = some (.int .i64 (next + (KK : Int))) ∧ X.cell? ⟨g10, 1, none⟩ = some (.slice A3 n3 c3) ∧ X.cell? ⟨gZ, i, none⟩ = some (.int .i64 (next + (i : Int)))) := Lib.hid fun X hX => ⟨(hX.x.b.cell 0).trans rfl, (hX.x.b.cell 1).trans rfl, hZc X hX.z⟩
  have HFp : Hid (∀ X, CI w x.cells g5 next nds A n c l g10 (next + (KK : Int)) A3 n3 c3 l3 Xs KK (some ⟨gO, 0, none⟩) cO S (some ⟨gZ, 0, none⟩) cZ Z X → Calls Tryz.prog 13 #[.agg #[.int .i64 next, .slice A n c], .int .i64 yy] X (FindIs X (nd, true))) := Lib.hid fun X hX => HFi.out _ _ _ _ hX.x.f.nm _ _ hnd
  have HFq : Hid (∀ X, CI w x.cells g5 next nds A n c l g10 (next + (KK : Int)) A3 n3 c3 l3 Xs KK (some ⟨gO, 0, none⟩) cO S (some ⟨gZ, 0, none⟩) cZ Z X → Calls Tryz.prog 13 #[.agg #[.int .i64 (next + (KK : Int)), .slice A3 n3 c3], .int .i64 (next + (i : Int))] X (FindIs X (qn, true))) := Lib.hid fun X hX => HFx.out _ _ _ _ hX.x.nx _ _ hqn
  have HE := Lib.hid (And.intro e1 (And.intro e2 (And.intro e3 (And.intro e4 e5))))
  clear hyy hnd hqn e1 e2 e3 e4 e5 hOc hZc
  go_upto_region 19 with (fail)
  replace HI := Lib.hid (HI.out.after (below_drew1 _))
  go_cut [16, 17] from 115 to 250 (fun s16 s17 wx => ∃ (g16 : Nat) (Mp : Leaf), s16 = .pointer (some ⟨g16, 0, none⟩) ∧ s17 = .bool true ∧ Hid (CI w x.cells g5 next nds A n c l g10 (next + (KK : Int)) A3 n3 c3 l3 Xs KK (some ⟨gO, 0, none⟩) cO S (some ⟨gZ, 0, none⟩) cZ Z wx) ∧ Hid (NdBox wx g16 nd Mp))
  case first =>
    refine wp_region_held (S := fun w' => w'.cell? ⟨g5, 0, none⟩ = some (.int .i64 next) ∧ w'.cell? ⟨g5, 1, none⟩ = some (.slice A n c) ∧ w'.cell? ⟨gO, i, none⟩ = some (.int .i64 yy)) (by kernel_rfl) ?_
    show wpAnyH _ _ _ _ _ 12 (Array.replicate 12 false) _ wr.drew
    generalize wr.drew = wz at HI ⊢
    have hHeld : (fun w' => w'.cell? ⟨g5, 0, none⟩ = some (.int .i64 next) ∧ w'.cell? ⟨g5, 1, none⟩ = some (.slice A n c) ∧ w'.cell? ⟨gO, i, none⟩ = some (.int .i64 yy)) wz := HSp.out _ HI.out
    have HBz := Lib.hid (Below.refl wz.heap.size wz)
    refine wpAnyH_take (i := 0) (v := (.agg #[.int .i64 next, .slice A n c])) rfl (by kernel_rfl) (by kernel_rfl) (by kernel_rfl) (fun _ _ _ h => hPn _ _ _ _ h rfl) (Or.inl ⟨by rfl, ?yp_1⟩) (by assumption) ?qp_1
    case yp_1 => (intro w hSw; (try dsimp only at hSw); go_simp)
    case qp_1 =>
      (try simp only [Act.put]); (try simp only [List.setIfInBounds_toArray])
      refine wpAnyH_take (i := 1) (v := (.slice (some ⟨gO, 0, none⟩) KK cO)) rfl (by kernel_rfl) (by kernel_rfl) (by kernel_rfl) (fun _ _ _ h => hPn _ _ _ _ h rfl) (Or.inl ⟨by rfl, ?yp_2⟩) (by assumption) ?qp_2
      case yp_2 => (intro w hSw; (try dsimp only at hSw); go_simp)
      case qp_2 =>
        (try simp only [Act.put]); (try simp only [List.setIfInBounds_toArray])
        refine wpAnyH_take (i := 2) (v := (.int .i64 i)) rfl (by kernel_rfl) (by kernel_rfl) (by kernel_rfl) (fun _ _ _ h => hPn _ _ _ _ h rfl) (Or.inl ⟨by rfl, ?yp_3⟩) (by assumption) ?qp_3
        case yp_3 => (intro w hSw; (try dsimp only at hSw); go_simp)
        case qp_3 =>
          (try simp only [Act.put]); (try simp only [List.setIfInBounds_toArray])
          refine wpAnyH_take (i := 3) (v := (.pointer (some ⟨gO, i, none⟩))) rfl (by kernel_rfl) (by kernel_rfl) (by kernel_rfl) (fun _ _ _ h => hPn _ _ _ _ h rfl) (Or.inl ⟨by rfl, ?yp_4⟩) (by assumption) ?qp_4
          case yp_4 => (intro w hSw; (try dsimp only at hSw); go_simp)
          case qp_4 =>
            (try simp only [Act.put]); (try simp only [List.setIfInBounds_toArray])
            refine wpAnyH_take (i := 4) (v := (.int .i64 yy)) rfl (by kernel_rfl) (by kernel_rfl) (by kernel_rfl) (fun _ _ _ h => hPn _ _ _ _ h rfl) (Or.inl ⟨by rfl, ?yp_5⟩) (by assumption) ?qp_5
            case yp_5 => (intro w hSw; (try dsimp only at hSw); go_simp)
            case qp_5 =>
              (try simp only [Act.put]); (try simp only [List.setIfInBounds_toArray])
              refine wpAnyH_ready (rs := [5, 9]) (by kernel_rfl) (by simp) ?_
              refine AllReadyH.cons rfl (fun K hK => ?sp_6) ?mp_6
              case sp_6 =>
                (refine step_call _ (by rfl) 13 #[.agg #[.int .i64 next, .slice A n c], .int .i64 yy] (by go_simp) (HFp.out _ (HI.out.after HBz.out)) ?_; rintro e Yb ⟨⟨⟨Lp, ap, bp⟩, ⟨Lk, ak, bk⟩, ⟨Lr, ar, br⟩⟩, rfl, hlf, hbb⟩; refine ⟨_, rfl, ?_⟩; replace HBz := Lib.hid (HBz.out.trans (hbb.mono HBz.out.size)); have HLf := Lib.hid (hlf.mono (Nat.zero_le _)); clear hbb hlf)
                refine hK.out _ _ ?kp_6 (fun hHeld => ?qp_6)
                case kp_6 => ((try dsimp only); first | exact HSp.out _ (HI.out.after HZz.out.1) | exact HSp.out _ (HI.out.after HBz.out))
                case qp_6 =>
                  clear hK K
                  (try simp only [Act.put]); (try simp only [List.setIfInBounds_toArray])
                  refine wpAnyH_take (i := 6) (v := (.tuple #[.agg #[.int .i64 nd.id, .string nd.con, .int .i64 nd.par, .string nd.role, .slice Lp ap bp, .slice Lk ak bk, .slice Lr ar br], .bool true])) rfl (by kernel_rfl) (by kernel_rfl) (by kernel_rfl) (fun _ _ _ h => hPn _ _ _ _ h rfl) (Or.inl ⟨by rfl, ?yp_7⟩) (by assumption) ?qp_7
                  case yp_7 => (intro w hSw; (try dsimp only at hSw); go_simp)
                  case qp_7 =>
                    (try simp only [Act.put]); (try simp only [List.setIfInBounds_toArray])
                    refine wpAnyH_take (i := 7) (v := (.agg #[.int .i64 nd.id, .string nd.con, .int .i64 nd.par, .string nd.role, .slice Lp ap bp, .slice Lk ak bk, .slice Lr ar br])) rfl (by kernel_rfl) (by kernel_rfl) (by kernel_rfl) (fun _ _ _ h => hPn _ _ _ _ h rfl) (Or.inl ⟨by rfl, ?yp_8⟩) (by assumption) ?qp_8
                    case yp_8 => (intro w hSw; (try dsimp only at hSw); go_simp)
                    case qp_8 =>
                      (try simp only [Act.put]); (try simp only [List.setIfInBounds_toArray])
                      refine wpAnyH_take (i := 8) (v := (.bool true)) rfl (by kernel_rfl) (by kernel_rfl) (by kernel_rfl) (fun _ _ _ h => hPn _ _ _ _ h rfl) (Or.inl ⟨by rfl, ?yp_9⟩) (by assumption) ?qp_9
                      case yp_9 => (intro w hSw; (try dsimp only at hSw); go_simp)
                      case qp_9 =>
                        (try simp only [Act.put]); (try simp only [List.setIfInBounds_toArray])
                        refine wpAnyH_ready (rs := [9]) (by kernel_rfl) (by simp) ?_
                        refine AllReadyH.cons rfl (fun K hK => ?sp_10) ?mp_10
                        case sp_10 =>
                          (refine step_alloc _ (by rfl) 41 #[.int .i64 0, .string ⟨#[]⟩, .int .i64 0, .string ⟨#[]⟩, .slice none 0 0, .slice none 0 0, .slice none 0 0] (by go_simp) ?_; intro g9 Yd hx9 hb9 hs9; have HU := Lib.hid hx9; have HG9 := Lib.hid (Nat.le_trans HBz.out.size hs9); replace HBz := Lib.hid (HBz.out.trans (hb9.mono HBz.out.size)); replace HLf := Lib.hid (HLf.out.after hb9); clear hx9 hb9 hs9)
                          refine hK.out _ _ ?kp_10 (fun hHeld => ?qp_10)
                          case kp_10 => ((try dsimp only); first | exact HSp.out _ (HI.out.after HZz.out.1) | exact HSp.out _ (HI.out.after HBz.out))
                          case qp_10 =>
                            clear hK K
                            (try simp only [Act.put]); (try simp only [List.setIfInBounds_toArray])
                            refine wpAnyH_ready (rs := [10]) (by kernel_rfl) (by simp) ?_
                            refine AllReadyH.cons rfl (fun K hK => ?sp_11) ?mp_11
                            case sp_11 =>
                              (have z0 := (HU.out.cell 0).trans (show _ = some (.int .i64 0) from rfl); have f0 := HU.out.frozen 0; have z1 := (HU.out.cell 1).trans (show _ = some (.string ⟨#[]⟩) from rfl); have f1 := HU.out.frozen 1; have z2 := (HU.out.cell 2).trans (show _ = some (.int .i64 0) from rfl); have f2 := HU.out.frozen 2; have z3 := (HU.out.cell 3).trans (show _ = some (.string ⟨#[]⟩) from rfl); have f3 := HU.out.frozen 3; have z4 := (HU.out.cell 4).trans (show _ = some (.slice none 0 0) from rfl); have f4 := HU.out.frozen 4; have z5 := (HU.out.cell 5).trans (show _ = some (.slice none 0 0) from rfl); have f5 := HU.out.frozen 5; have z6 := (HU.out.cell 6).trans (show _ = some (.slice none 0 0) from rfl); have f6 := HU.out.frozen 6; have HZz := Lib.hid (lay7 HBz.out HU.out HG9.out HLf.out (.int .i64 nd.id) (.string nd.con) (.int .i64 nd.par) (.string nd.role) (.slice Lp ap bp) (.slice Lk ak bk) (.slice Lr ar br)); go_simp)
                              refine hK.out _ _ ?kp_11 (fun hHeld => ?qp_11)
                              case kp_11 => ((try dsimp only); first | exact HSp.out _ (HI.out.after HZz.out.1) | exact HSp.out _ (HI.out.after HBz.out))
                              case qp_11 =>
                                clear hK K
                                (try simp only [Act.put]); (try simp only [List.setIfInBounds_toArray])
                                refine wpAnyH_take (i := 11) (v := (.bool true)) rfl (by kernel_rfl) (by kernel_rfl) (by kernel_rfl) (fun _ _ _ h => hPn _ _ _ _ h rfl) (Or.inl ⟨by rfl, ?yp_12⟩) (by assumption) ?qp_12
                                case yp_12 => (intro w hSw; (try dsimp only at hSw); go_simp)
                                case qp_12 =>
                                  (try simp only [Act.put]); (try simp only [List.setIfInBounds_toArray])
                                  refine wpAnyH_done (by kernel_rfl) ?_ _
                                  clear hHeld
                                  go_wp2_with fail
                                  go_meet
                                  exact ⟨g9, ⟨⟨Lp, ap, bp⟩, ⟨Lk, ak, bk⟩, ⟨Lr, ar, br⟩⟩, rfl, rfl, Lib.hid (HI.out.after HZz.out.1), Lib.hid ⟨HZz.out.2.1, HZz.out.2.2⟩⟩
                            case mp_11 =>
                              exact AllReadyH.nil
                        case mp_10 =>
                          exact AllReadyH.nil
              case mp_6 =>
                refine AllReadyH.cons rfl (fun K hK => ?sp_13) ?mp_13
                case sp_13 =>
                  (refine step_alloc _ (by rfl) 41 #[.int .i64 0, .string ⟨#[]⟩, .int .i64 0, .string ⟨#[]⟩, .slice none 0 0, .slice none 0 0, .slice none 0 0] (by go_simp) ?_; intro g9 Yd hx9 hb9 hs9; have HU := Lib.hid hx9; have HG9 := Lib.hid (Nat.le_trans HBz.out.size hs9); replace HBz := Lib.hid (HBz.out.trans (hb9.mono HBz.out.size)); clear hx9 hb9 hs9)
                  refine hK.out _ _ ?kp_13 (fun hHeld => ?qp_13)
                  case kp_13 => ((try dsimp only); first | exact HSp.out _ (HI.out.after HZz.out.1) | exact HSp.out _ (HI.out.after HBz.out))
                  case qp_13 =>
                    clear hK K
                    (try simp only [Act.put]); (try simp only [List.setIfInBounds_toArray])
                    refine wpAnyH_ready (rs := [5]) (by kernel_rfl) (by simp) ?_
                    refine AllReadyH.cons rfl (fun K hK => ?sp_14) ?mp_14
                    case sp_14 =>
                      (refine step_call _ (by rfl) 13 #[.agg #[.int .i64 next, .slice A n c], .int .i64 yy] (by go_simp) (HFp.out _ (HI.out.after HBz.out)) ?_; rintro e Yb ⟨⟨⟨Lp, ap, bp⟩, ⟨Lk, ak, bk⟩, ⟨Lr, ar, br⟩⟩, rfl, hlf, hbb⟩; refine ⟨_, rfl, ?_⟩; replace HBz := Lib.hid (HBz.out.trans (hbb.mono HBz.out.size)); have HLf := Lib.hid (hlf.mono (Nat.zero_le _)); replace HU := Lib.hid (HU.out.after hbb); clear hbb hlf)
                      refine hK.out _ _ ?kp_14 (fun hHeld => ?qp_14)
                      case kp_14 => ((try dsimp only); first | exact HSp.out _ (HI.out.after HZz.out.1) | exact HSp.out _ (HI.out.after HBz.out))
                      case qp_14 =>
                        clear hK K
                        (try simp only [Act.put]); (try simp only [List.setIfInBounds_toArray])
                        refine wpAnyH_take (i := 6) (v := (.tuple #[.agg #[.int .i64 nd.id, .string nd.con, .int .i64 nd.par, .string nd.role, .slice Lp ap bp, .slice Lk ak bk, .slice Lr ar br], .bool true])) rfl (by kernel_rfl) (by kernel_rfl) (by kernel_rfl) (fun _ _ _ h => hPn _ _ _ _ h rfl) (Or.inl ⟨by rfl, ?yp_15⟩) (by assumption) ?qp_15
                        case yp_15 => (intro w hSw; (try dsimp only at hSw); go_simp)
                        case qp_15 =>
                          (try simp only [Act.put]); (try simp only [List.setIfInBounds_toArray])
                          refine wpAnyH_take (i := 7) (v := (.agg #[.int .i64 nd.id, .string nd.con, .int .i64 nd.par, .string nd.role, .slice Lp ap bp, .slice Lk ak bk, .slice Lr ar br])) rfl (by kernel_rfl) (by kernel_rfl) (by kernel_rfl) (fun _ _ _ h => hPn _ _ _ _ h rfl) (Or.inl ⟨by rfl, ?yp_16⟩) (by assumption) ?qp_16
                          case yp_16 => (intro w hSw; (try dsimp only at hSw); go_simp)
                          case qp_16 =>
                            (try simp only [Act.put]); (try simp only [List.setIfInBounds_toArray])
                            refine wpAnyH_take (i := 8) (v := (.bool true)) rfl (by kernel_rfl) (by kernel_rfl) (by kernel_rfl) (fun _ _ _ h => hPn _ _ _ _ h rfl) (Or.inl ⟨by rfl, ?yp_17⟩) (by assumption) ?qp_17
                            case yp_17 => (intro w hSw; (try dsimp only at hSw); go_simp)
                            case qp_17 =>
                              (try simp only [Act.put]); (try simp only [List.setIfInBounds_toArray])
                              refine wpAnyH_ready (rs := [10]) (by kernel_rfl) (by simp) ?_
                              refine AllReadyH.cons rfl (fun K hK => ?sp_18) ?mp_18
                              case sp_18 =>
                                (have z0 := (HU.out.cell 0).trans (show _ = some (.int .i64 0) from rfl); have f0 := HU.out.frozen 0; have z1 := (HU.out.cell 1).trans (show _ = some (.string ⟨#[]⟩) from rfl); have f1 := HU.out.frozen 1; have z2 := (HU.out.cell 2).trans (show _ = some (.int .i64 0) from rfl); have f2 := HU.out.frozen 2; have z3 := (HU.out.cell 3).trans (show _ = some (.string ⟨#[]⟩) from rfl); have f3 := HU.out.frozen 3; have z4 := (HU.out.cell 4).trans (show _ = some (.slice none 0 0) from rfl); have f4 := HU.out.frozen 4; have z5 := (HU.out.cell 5).trans (show _ = some (.slice none 0 0) from rfl); have f5 := HU.out.frozen 5; have z6 := (HU.out.cell 6).trans (show _ = some (.slice none 0 0) from rfl); have f6 := HU.out.frozen 6; have HZz := Lib.hid (lay7 HBz.out HU.out HG9.out HLf.out (.int .i64 nd.id) (.string nd.con) (.int .i64 nd.par) (.string nd.role) (.slice Lp ap bp) (.slice Lk ak bk) (.slice Lr ar br)); go_simp)
                                refine hK.out _ _ ?kp_18 (fun hHeld => ?qp_18)
                                case kp_18 => ((try dsimp only); first | exact HSp.out _ (HI.out.after HZz.out.1) | exact HSp.out _ (HI.out.after HBz.out))
                                case qp_18 =>
                                  clear hK K
                                  (try simp only [Act.put]); (try simp only [List.setIfInBounds_toArray])
                                  refine wpAnyH_take (i := 11) (v := (.bool true)) rfl (by kernel_rfl) (by kernel_rfl) (by kernel_rfl) (fun _ _ _ h => hPn _ _ _ _ h rfl) (Or.inl ⟨by rfl, ?yp_19⟩) (by assumption) ?qp_19
                                  case yp_19 => (intro w hSw; (try dsimp only at hSw); go_simp)
                                  case qp_19 =>
                                    (try simp only [Act.put]); (try simp only [List.setIfInBounds_toArray])
                                    refine wpAnyH_done (by kernel_rfl) ?_ _
                                    clear hHeld
                                    go_wp2_with fail
                                    go_meet
                                    exact ⟨g9, ⟨⟨Lp, ap, bp⟩, ⟨Lk, ak, bk⟩, ⟨Lr, ar, br⟩⟩, rfl, rfl, Lib.hid (HI.out.after HZz.out.1), Lib.hid ⟨HZz.out.2.1, HZz.out.2.2⟩⟩
                              case mp_18 =>
                                exact AllReadyH.nil
                    case mp_14 =>
                      exact AllReadyH.nil
                case mp_13 =>
                  exact AllReadyH.nil
  case rest =>
    obtain ⟨g16, ⟨⟨Ap, np, cp⟩, ⟨Ak, nk, ck⟩, ⟨Ar, nr, cr⟩⟩, rfl, rfl, HI, HP⟩ := hcut
    rename World => wc
    go_upto_region 20 with (fail)
    replace HI := Lib.hid (HI.out.after (below_drew1 _))
    replace HP := Lib.hid (HP.out.after (below_drew1 _))
    go_cut [18, 19] from 115 to 250 (fun s18 s19 wx => ∃ (g18 : Nat) (Mq : Leaf), s18 = .pointer (some ⟨g18, 0, none⟩) ∧ s19 = .bool true ∧ Hid (CI w x.cells g5 next nds A n c l g10 (next + (KK : Int)) A3 n3 c3 l3 Xs KK (some ⟨gO, 0, none⟩) cO S (some ⟨gZ, 0, none⟩) cZ Z wx) ∧ Hid (NdBox wx g16 nd ⟨⟨Ap, np, cp⟩, ⟨Ak, nk, ck⟩, ⟨Ar, nr, cr⟩⟩) ∧ Hid (NdBox wx g18 qn Mq))
    case first =>
      refine wp_region_held (S := fun w' => w'.cell? ⟨g10, 0, none⟩ = some (.int .i64 (next + (KK : Int))) ∧ w'.cell? ⟨g10, 1, none⟩ = some (.slice A3 n3 c3) ∧ w'.cell? ⟨gZ, i, none⟩ = some (.int .i64 (next + (i : Int)))) (by kernel_rfl) ?_
      show wpAnyH _ _ _ _ _ 12 (Array.replicate 12 false) _ wc.drew
      generalize wc.drew = wz at HI HP ⊢
      have hHeld : (fun w' => w'.cell? ⟨g10, 0, none⟩ = some (.int .i64 (next + (KK : Int))) ∧ w'.cell? ⟨g10, 1, none⟩ = some (.slice A3 n3 c3) ∧ w'.cell? ⟨gZ, i, none⟩ = some (.int .i64 (next + (i : Int)))) wz := HSq.out _ HI.out
      have HBz := Lib.hid (Below.refl wz.heap.size wz)
      refine wpAnyH_take (i := 0) (v := (.agg #[.int .i64 (next + (KK : Int)), .slice A3 n3 c3])) rfl (by kernel_rfl) (by kernel_rfl) (by kernel_rfl) (fun _ _ _ h => hPn _ _ _ _ h rfl) (Or.inl ⟨by rfl, ?yq_1⟩) (by assumption) ?qq_1
      case yq_1 => (intro w hSw; (try dsimp only at hSw); go_simp)
      case qq_1 =>
        (try simp only [Act.put]); (try simp only [List.setIfInBounds_toArray])
        refine wpAnyH_take (i := 1) (v := (.slice (some ⟨gZ, 0, none⟩) KK cZ)) rfl (by kernel_rfl) (by kernel_rfl) (by kernel_rfl) (fun _ _ _ h => hPn _ _ _ _ h rfl) (Or.inl ⟨by rfl, ?yq_2⟩) (by assumption) ?qq_2
        case yq_2 => (intro w hSw; (try dsimp only at hSw); go_simp)
        case qq_2 =>
          (try simp only [Act.put]); (try simp only [List.setIfInBounds_toArray])
          refine wpAnyH_take (i := 2) (v := (.int .i64 i)) rfl (by kernel_rfl) (by kernel_rfl) (by kernel_rfl) (fun _ _ _ h => hPn _ _ _ _ h rfl) (Or.inl ⟨by rfl, ?yq_3⟩) (by assumption) ?qq_3
          case yq_3 => (intro w hSw; (try dsimp only at hSw); go_simp)
          case qq_3 =>
            (try simp only [Act.put]); (try simp only [List.setIfInBounds_toArray])
            refine wpAnyH_take (i := 3) (v := (.pointer (some ⟨gZ, i, none⟩))) rfl (by kernel_rfl) (by kernel_rfl) (by kernel_rfl) (fun _ _ _ h => hPn _ _ _ _ h rfl) (Or.inl ⟨by rfl, ?yq_4⟩) (by assumption) ?qq_4
            case yq_4 => (intro w hSw; (try dsimp only at hSw); go_simp)
            case qq_4 =>
              (try simp only [Act.put]); (try simp only [List.setIfInBounds_toArray])
              refine wpAnyH_take (i := 4) (v := (.int .i64 (next + (i : Int)))) rfl (by kernel_rfl) (by kernel_rfl) (by kernel_rfl) (fun _ _ _ h => hPn _ _ _ _ h rfl) (Or.inl ⟨by rfl, ?yq_5⟩) (by assumption) ?qq_5
              case yq_5 => (intro w hSw; (try dsimp only at hSw); go_simp)
              case qq_5 =>
                (try simp only [Act.put]); (try simp only [List.setIfInBounds_toArray])
                refine wpAnyH_ready (rs := [5, 9]) (by kernel_rfl) (by simp) ?_
                refine AllReadyH.cons rfl (fun K hK => ?sq_6) ?mq_6
                case sq_6 =>
                  (refine step_call _ (by rfl) 13 #[.agg #[.int .i64 (next + (KK : Int)), .slice A3 n3 c3], .int .i64 (next + (i : Int))] (by go_simp) (HFq.out _ (HI.out.after HBz.out)) ?_; rintro e Yb ⟨⟨⟨Lp, ap, bp⟩, ⟨Lk, ak, bk⟩, ⟨Lr, ar, br⟩⟩, rfl, hlf, hbb⟩; refine ⟨_, rfl, ?_⟩; replace HBz := Lib.hid (HBz.out.trans (hbb.mono HBz.out.size)); have HLf := Lib.hid (hlf.mono (Nat.zero_le _)); clear hbb hlf)
                  refine hK.out _ _ ?kq_6 (fun hHeld => ?qq_6)
                  case kq_6 => ((try dsimp only); first | exact HSq.out _ (HI.out.after HZz.out.1) | exact HSq.out _ (HI.out.after HBz.out))
                  case qq_6 =>
                    clear hK K
                    (try simp only [Act.put]); (try simp only [List.setIfInBounds_toArray])
                    refine wpAnyH_take (i := 6) (v := (.tuple #[.agg #[.int .i64 qn.id, .string qn.con, .int .i64 qn.par, .string qn.role, .slice Lp ap bp, .slice Lk ak bk, .slice Lr ar br], .bool true])) rfl (by kernel_rfl) (by kernel_rfl) (by kernel_rfl) (fun _ _ _ h => hPn _ _ _ _ h rfl) (Or.inl ⟨by rfl, ?yq_7⟩) (by assumption) ?qq_7
                    case yq_7 => (intro w hSw; (try dsimp only at hSw); go_simp)
                    case qq_7 =>
                      (try simp only [Act.put]); (try simp only [List.setIfInBounds_toArray])
                      refine wpAnyH_take (i := 7) (v := (.agg #[.int .i64 qn.id, .string qn.con, .int .i64 qn.par, .string qn.role, .slice Lp ap bp, .slice Lk ak bk, .slice Lr ar br])) rfl (by kernel_rfl) (by kernel_rfl) (by kernel_rfl) (fun _ _ _ h => hPn _ _ _ _ h rfl) (Or.inl ⟨by rfl, ?yq_8⟩) (by assumption) ?qq_8
                      case yq_8 => (intro w hSw; (try dsimp only at hSw); go_simp)
                      case qq_8 =>
                        (try simp only [Act.put]); (try simp only [List.setIfInBounds_toArray])
                        refine wpAnyH_take (i := 8) (v := (.bool true)) rfl (by kernel_rfl) (by kernel_rfl) (by kernel_rfl) (fun _ _ _ h => hPn _ _ _ _ h rfl) (Or.inl ⟨by rfl, ?yq_9⟩) (by assumption) ?qq_9
                        case yq_9 => (intro w hSw; (try dsimp only at hSw); go_simp)
                        case qq_9 =>
                          (try simp only [Act.put]); (try simp only [List.setIfInBounds_toArray])
                          refine wpAnyH_ready (rs := [9]) (by kernel_rfl) (by simp) ?_
                          refine AllReadyH.cons rfl (fun K hK => ?sq_10) ?mq_10
                          case sq_10 =>
                            (refine step_alloc _ (by rfl) 41 #[.int .i64 0, .string ⟨#[]⟩, .int .i64 0, .string ⟨#[]⟩, .slice none 0 0, .slice none 0 0, .slice none 0 0] (by go_simp) ?_; intro g9 Yd hx9 hb9 hs9; have HU := Lib.hid hx9; have HG9 := Lib.hid (Nat.le_trans HBz.out.size hs9); replace HBz := Lib.hid (HBz.out.trans (hb9.mono HBz.out.size)); replace HLf := Lib.hid (HLf.out.after hb9); clear hx9 hb9 hs9)
                            refine hK.out _ _ ?kq_10 (fun hHeld => ?qq_10)
                            case kq_10 => ((try dsimp only); first | exact HSq.out _ (HI.out.after HZz.out.1) | exact HSq.out _ (HI.out.after HBz.out))
                            case qq_10 =>
                              clear hK K
                              (try simp only [Act.put]); (try simp only [List.setIfInBounds_toArray])
                              refine wpAnyH_ready (rs := [10]) (by kernel_rfl) (by simp) ?_
                              refine AllReadyH.cons rfl (fun K hK => ?sq_11) ?mq_11
                              case sq_11 =>
                                (have z0 := (HU.out.cell 0).trans (show _ = some (.int .i64 0) from rfl); have f0 := HU.out.frozen 0; have z1 := (HU.out.cell 1).trans (show _ = some (.string ⟨#[]⟩) from rfl); have f1 := HU.out.frozen 1; have z2 := (HU.out.cell 2).trans (show _ = some (.int .i64 0) from rfl); have f2 := HU.out.frozen 2; have z3 := (HU.out.cell 3).trans (show _ = some (.string ⟨#[]⟩) from rfl); have f3 := HU.out.frozen 3; have z4 := (HU.out.cell 4).trans (show _ = some (.slice none 0 0) from rfl); have f4 := HU.out.frozen 4; have z5 := (HU.out.cell 5).trans (show _ = some (.slice none 0 0) from rfl); have f5 := HU.out.frozen 5; have z6 := (HU.out.cell 6).trans (show _ = some (.slice none 0 0) from rfl); have f6 := HU.out.frozen 6; have HZz := Lib.hid (lay7 HBz.out HU.out HG9.out HLf.out (.int .i64 qn.id) (.string qn.con) (.int .i64 qn.par) (.string qn.role) (.slice Lp ap bp) (.slice Lk ak bk) (.slice Lr ar br)); go_simp)
                                refine hK.out _ _ ?kq_11 (fun hHeld => ?qq_11)
                                case kq_11 => ((try dsimp only); first | exact HSq.out _ (HI.out.after HZz.out.1) | exact HSq.out _ (HI.out.after HBz.out))
                                case qq_11 =>
                                  clear hK K
                                  (try simp only [Act.put]); (try simp only [List.setIfInBounds_toArray])
                                  refine wpAnyH_take (i := 11) (v := (.bool true)) rfl (by kernel_rfl) (by kernel_rfl) (by kernel_rfl) (fun _ _ _ h => hPn _ _ _ _ h rfl) (Or.inl ⟨by rfl, ?yq_12⟩) (by assumption) ?qq_12
                                  case yq_12 => (intro w hSw; (try dsimp only at hSw); go_simp)
                                  case qq_12 =>
                                    (try simp only [Act.put]); (try simp only [List.setIfInBounds_toArray])
                                    refine wpAnyH_done (by kernel_rfl) ?_ _
                                    clear hHeld
                                    go_wp2_with fail
                                    go_meet
                                    exact ⟨g9, ⟨⟨Lp, ap, bp⟩, ⟨Lk, ak, bk⟩, ⟨Lr, ar, br⟩⟩, rfl, rfl, Lib.hid (HI.out.after HZz.out.1), Lib.hid (HP.out.after HZz.out.1), Lib.hid ⟨HZz.out.2.1, HZz.out.2.2⟩⟩
                              case mq_11 =>
                                exact AllReadyH.nil
                          case mq_10 =>
                            exact AllReadyH.nil
                case mq_6 =>
                  refine AllReadyH.cons rfl (fun K hK => ?sq_13) ?mq_13
                  case sq_13 =>
                    (refine step_alloc _ (by rfl) 41 #[.int .i64 0, .string ⟨#[]⟩, .int .i64 0, .string ⟨#[]⟩, .slice none 0 0, .slice none 0 0, .slice none 0 0] (by go_simp) ?_; intro g9 Yd hx9 hb9 hs9; have HU := Lib.hid hx9; have HG9 := Lib.hid (Nat.le_trans HBz.out.size hs9); replace HBz := Lib.hid (HBz.out.trans (hb9.mono HBz.out.size)); clear hx9 hb9 hs9)
                    refine hK.out _ _ ?kq_13 (fun hHeld => ?qq_13)
                    case kq_13 => ((try dsimp only); first | exact HSq.out _ (HI.out.after HZz.out.1) | exact HSq.out _ (HI.out.after HBz.out))
                    case qq_13 =>
                      clear hK K
                      (try simp only [Act.put]); (try simp only [List.setIfInBounds_toArray])
                      refine wpAnyH_ready (rs := [5]) (by kernel_rfl) (by simp) ?_
                      refine AllReadyH.cons rfl (fun K hK => ?sq_14) ?mq_14
                      case sq_14 =>
                        (refine step_call _ (by rfl) 13 #[.agg #[.int .i64 (next + (KK : Int)), .slice A3 n3 c3], .int .i64 (next + (i : Int))] (by go_simp) (HFq.out _ (HI.out.after HBz.out)) ?_; rintro e Yb ⟨⟨⟨Lp, ap, bp⟩, ⟨Lk, ak, bk⟩, ⟨Lr, ar, br⟩⟩, rfl, hlf, hbb⟩; refine ⟨_, rfl, ?_⟩; replace HBz := Lib.hid (HBz.out.trans (hbb.mono HBz.out.size)); have HLf := Lib.hid (hlf.mono (Nat.zero_le _)); replace HU := Lib.hid (HU.out.after hbb); clear hbb hlf)
                        refine hK.out _ _ ?kq_14 (fun hHeld => ?qq_14)
                        case kq_14 => ((try dsimp only); first | exact HSq.out _ (HI.out.after HZz.out.1) | exact HSq.out _ (HI.out.after HBz.out))
                        case qq_14 =>
                          clear hK K
                          (try simp only [Act.put]); (try simp only [List.setIfInBounds_toArray])
                          refine wpAnyH_take (i := 6) (v := (.tuple #[.agg #[.int .i64 qn.id, .string qn.con, .int .i64 qn.par, .string qn.role, .slice Lp ap bp, .slice Lk ak bk, .slice Lr ar br], .bool true])) rfl (by kernel_rfl) (by kernel_rfl) (by kernel_rfl) (fun _ _ _ h => hPn _ _ _ _ h rfl) (Or.inl ⟨by rfl, ?yq_15⟩) (by assumption) ?qq_15
                          case yq_15 => (intro w hSw; (try dsimp only at hSw); go_simp)
                          case qq_15 =>
                            (try simp only [Act.put]); (try simp only [List.setIfInBounds_toArray])
                            refine wpAnyH_take (i := 7) (v := (.agg #[.int .i64 qn.id, .string qn.con, .int .i64 qn.par, .string qn.role, .slice Lp ap bp, .slice Lk ak bk, .slice Lr ar br])) rfl (by kernel_rfl) (by kernel_rfl) (by kernel_rfl) (fun _ _ _ h => hPn _ _ _ _ h rfl) (Or.inl ⟨by rfl, ?yq_16⟩) (by assumption) ?qq_16
                            case yq_16 => (intro w hSw; (try dsimp only at hSw); go_simp)
                            case qq_16 =>
                              (try simp only [Act.put]); (try simp only [List.setIfInBounds_toArray])
                              refine wpAnyH_take (i := 8) (v := (.bool true)) rfl (by kernel_rfl) (by kernel_rfl) (by kernel_rfl) (fun _ _ _ h => hPn _ _ _ _ h rfl) (Or.inl ⟨by rfl, ?yq_17⟩) (by assumption) ?qq_17
                              case yq_17 => (intro w hSw; (try dsimp only at hSw); go_simp)
                              case qq_17 =>
                                (try simp only [Act.put]); (try simp only [List.setIfInBounds_toArray])
                                refine wpAnyH_ready (rs := [10]) (by kernel_rfl) (by simp) ?_
                                refine AllReadyH.cons rfl (fun K hK => ?sq_18) ?mq_18
                                case sq_18 =>
                                  (have z0 := (HU.out.cell 0).trans (show _ = some (.int .i64 0) from rfl); have f0 := HU.out.frozen 0; have z1 := (HU.out.cell 1).trans (show _ = some (.string ⟨#[]⟩) from rfl); have f1 := HU.out.frozen 1; have z2 := (HU.out.cell 2).trans (show _ = some (.int .i64 0) from rfl); have f2 := HU.out.frozen 2; have z3 := (HU.out.cell 3).trans (show _ = some (.string ⟨#[]⟩) from rfl); have f3 := HU.out.frozen 3; have z4 := (HU.out.cell 4).trans (show _ = some (.slice none 0 0) from rfl); have f4 := HU.out.frozen 4; have z5 := (HU.out.cell 5).trans (show _ = some (.slice none 0 0) from rfl); have f5 := HU.out.frozen 5; have z6 := (HU.out.cell 6).trans (show _ = some (.slice none 0 0) from rfl); have f6 := HU.out.frozen 6; have HZz := Lib.hid (lay7 HBz.out HU.out HG9.out HLf.out (.int .i64 qn.id) (.string qn.con) (.int .i64 qn.par) (.string qn.role) (.slice Lp ap bp) (.slice Lk ak bk) (.slice Lr ar br)); go_simp)
                                  refine hK.out _ _ ?kq_18 (fun hHeld => ?qq_18)
                                  case kq_18 => ((try dsimp only); first | exact HSq.out _ (HI.out.after HZz.out.1) | exact HSq.out _ (HI.out.after HBz.out))
                                  case qq_18 =>
                                    clear hK K
                                    (try simp only [Act.put]); (try simp only [List.setIfInBounds_toArray])
                                    refine wpAnyH_take (i := 11) (v := (.bool true)) rfl (by kernel_rfl) (by kernel_rfl) (by kernel_rfl) (fun _ _ _ h => hPn _ _ _ _ h rfl) (Or.inl ⟨by rfl, ?yq_19⟩) (by assumption) ?qq_19
                                    case yq_19 => (intro w hSw; (try dsimp only at hSw); go_simp)
                                    case qq_19 =>
                                      (try simp only [Act.put]); (try simp only [List.setIfInBounds_toArray])
                                      refine wpAnyH_done (by kernel_rfl) ?_ _
                                      clear hHeld
                                      go_wp2_with fail
                                      go_meet
                                      exact ⟨g9, ⟨⟨Lp, ap, bp⟩, ⟨Lk, ak, bk⟩, ⟨Lr, ar, br⟩⟩, rfl, rfl, Lib.hid (HI.out.after HZz.out.1), Lib.hid (HP.out.after HZz.out.1), Lib.hid ⟨HZz.out.2.1, HZz.out.2.2⟩⟩
                                case mq_18 =>
                                  exact AllReadyH.nil
                      case mq_14 =>
                        exact AllReadyH.nil
                  case mq_13 =>
                    exact AllReadyH.nil
    case rest =>
      obtain ⟨g18, ⟨⟨Bp, mp, dp⟩, ⟨Bk, mk, dk⟩, ⟨Br, mr, dr⟩⟩, rfl, rfl, HI, HP, HQ⟩ := hcut
      rename World => wd
      have hnk : mk = nk := by
        have h1 := HP.out.2.kn
        have h2 := HQ.out.2.kn
        have h3 := HE.out.2.1
        simp only at h1 h2
        omega
      have hnr : mr = nr := by
        have h1 := HP.out.2.rn
        have h2 := HQ.out.2.rn
        have h3 := congrArg List.length HE.out.2.2.1
        unfold cpRefs at h3
        rw [List.length_map] at h3
        simp only at h1 h2
        omega
      subst hnk
      subst hnr
      clear HSp HFp HFq
      go_upto_region 21 with (fail)
      have p1 := (HP.out.1.cell 1).trans (show _ = some (.string nd.con) from rfl)
      have p3 := (HP.out.1.cell 3).trans (show _ = some (.string nd.role) from rfl)
      have p5 := (HP.out.1.cell 5).trans (show _ = some (.slice Ak mk ck) from rfl)
      have p6 := (HP.out.1.cell 6).trans (show _ = some (.slice Ar mr cr) from rfl)
      have r1 := (HQ.out.1.cell 1).trans (show _ = some (.string nd.con) from by rw [← HE.out.1]; rfl)
      have r5 := (HQ.out.1.cell 5).trans (show _ = some (.slice Bk mk dk) from rfl)
      have r6 := (HQ.out.1.cell 6).trans (show _ = some (.slice Br mr dr) from rfl)
      have z0 := (HSq.out _ HI.out).2.2
      have hw1 : IntKind.i64.wrap (next + (i : Int)) = next + (i : Int) := IntWalk.i64_in _ (by have := HN.out; omega)
      go_cut [202] from 115 to 250 (fun s202 wx => s202 = .bool false ∧ wd = wx)
      case first =>
        by_cases hi0 : i = 0
        · have t1 : decide ((0 : Int) < (i : Int)) = false := decide_eq_false (by omega)
          have t2 : decide (0 < i) = false := decide_eq_false (by omega)
          have t3 : ((i : Int) == 0) = true := by rw [beq_iff_eq]; omega
          have r2 := (HQ.out.1.cell 2).trans (show _ = some (.int .i64 y) from by rw [← (HE.out.2.2.2.2 hi0).1]; rfl)
          have r3 := (HQ.out.1.cell 3).trans (show _ = some (.string rl) from by rw [← (HE.out.2.2.2.2 hi0).2]; rfl)
          clear hi0
          go_wp2_with fail
          go_meet
          exact ⟨by simp, rfl⟩
        · have t1 : decide ((0 : Int) < (i : Int)) = true := decide_eq_true (by omega)
          have t2 : decide (0 < i) = true := decide_eq_true (by omega)
          have t3 : ((i : Int) == 0) = false := by rw [beq_eq_false_iff_ne]; omega
          have r3 := (HQ.out.1.cell 3).trans (show _ = some (.string nd.role) from by rw [← HE.out.2.2.2.1 hi0]; rfl)
          clear hi0
          go_wp2_with fail
          go_meet
          exact ⟨by simp, rfl⟩
      case rest =>
        obtain ⟨rfl, rfl⟩ := hcut
        clear p1 p3 p5 p6 r1 r5 r6 z0 hw1
        go_wp2_with fail
        go_loopw [20] (fun v20 wx => ∃ k : Nat, k ≤ mr ∧ v20 = .int .i64 k ∧ Hid (CI w x.cells g5 next nds A n c l g10 (next + (KK : Int)) A3 n3 c3 l3 Xs KK (some ⟨gO, 0, none⟩) cO S (some ⟨gZ, 0, none⟩) cZ Z wx) ∧ Hid (NdBox wx g16 nd ⟨⟨Ap, np, cp⟩, ⟨Ak, mk, ck⟩, ⟨Ar, mr, cr⟩⟩) ∧ Hid (NdBox wx g18 qn ⟨⟨Bp, mp, dp⟩, ⟨Bk, mk, dk⟩, ⟨Br, mr, dr⟩⟩)) (fun v _ => mr - (intOf v).toNat)
        case atStart => exact ⟨0, Nat.zero_le _, rfl, HI, HP, HQ⟩
        case round =>
          clear HI HP HQ
          obtain ⟨k, hk, rfl, HI, HP, HQ⟩ := hrel
          rename World => we
          by_cases hkl : k < mr
          · have hrn := HP.out.2.rn
            have hqr := HQ.out.2.rn
            simp only at hrn hqr
            obtain ⟨r, hr⟩ : ∃ r, nd.refs[k]? = some r := ⟨nd.refs[k]'(by omega), List.getElem?_eq_getElem _⟩
            have hr2 : qn.refs[k]? = some (r.1, freT next S r.2) := by
              rw [HE.out.2.2.1]
              unfold cpRefs
              rw [List.getElem?_map, hr]; rfl
            obtain ⟨bp, hAr, hp1, hp2, hpc⟩ := refs_atK HP.out.2.r hrn.symm hr
            obtain ⟨bq, hBr, hq1, hq2, hqc⟩ := refs_atK HQ.out.2.r hqr.symm hr2
            obtain ⟨rn, rt⟩ := r
            simp only at hAr hBr hpc hqc hp1 hp2 hq1 hq2
            unfold maxLen at hp2 hq2
            subst hAr
            subst hBr
            have HSr : Hid (∀ X, NdBox X g16 nd ⟨⟨Ap, np, cp⟩, ⟨Ak, mk, ck⟩, ⟨some ⟨bp, 0, none⟩, mr, cr⟩⟩ → X.cell? ⟨g16, 6, none⟩ = some (.slice (some ⟨bp, 0, none⟩) mr cr) ∧ X.cell? ⟨bp, k * 2, none⟩ = some (.string rn) ∧ X.cell? ⟨bp, k * 2 + 1, none⟩ = some (.int .i64 rt)) := Lib.hid fun X hX => ⟨(hX.1.cell 6).trans rfl, hpc X hX.2.r⟩
            have HSs : Hid (∀ X, NdBox X g18 qn ⟨⟨Bp, mp, dp⟩, ⟨Bk, mk, dk⟩, ⟨some ⟨bq, 0, none⟩, mr, dr⟩⟩ → X.cell? ⟨g18, 6, none⟩ = some (.slice (some ⟨bq, 0, none⟩) mr dr) ∧ X.cell? ⟨bq, k * 2, none⟩ = some (.string rn) ∧ X.cell? ⟨bq, k * 2 + 1, none⟩ = some (.int .i64 (freT next S rt))) := Lib.hid fun X hX => ⟨(hX.1.cell 6).trans rfl, hqc X hX.2.r⟩
            clear hr hr2 hpc hqc hrn hqr
            obtain ⟨s0, s1, s2⟩ := HSr.out _ HP.out
            go_wp2_with fail
            clear s0 s1 s2
            go_loopw [21, 22] (fun v21 v22 wx => ∃ j : Nat, j ≤ KK ∧ v22 = .int .i64 j ∧ v21 = .int .i64 (wantV next S rt j) ∧ Hid (CI w x.cells g5 next nds A n c l g10 (next + (KK : Int)) A3 n3 c3 l3 Xs KK (some ⟨gO, 0, none⟩) cO S (some ⟨gZ, 0, none⟩) cZ Z wx) ∧ Hid (NdBox wx g16 nd ⟨⟨Ap, np, cp⟩, ⟨Ak, mk, ck⟩, ⟨some ⟨bp, 0, none⟩, mr, cr⟩⟩) ∧ Hid (NdBox wx g18 qn ⟨⟨Bp, mp, dp⟩, ⟨Bk, mk, dk⟩, ⟨some ⟨bq, 0, none⟩, mr, dr⟩⟩)) (fun _ v _ => KK - (intOf v).toNat)
            case atStart => exact ⟨0, Nat.zero_le _, rfl, by rw [want_zero], HI, HP, HQ⟩
            case round =>
              clear HI HP HQ
              obtain ⟨j, hj, rfl, rfl, HI, HP, HQ⟩ := hrel
              rename World => wf
              by_cases hjl : j < KK
              · obtain ⟨u, hu⟩ : ∃ u, S[j]? = some u := ⟨S[j]'(by have := HKl.out; omega), List.getElem?_eq_getElem _⟩
                obtain ⟨_, hAe, _, _, hOj⟩ := list_atK HI.out.s HKl.out hu
                injection hAe with hAe
                injection hAe with hAe _ _
                subst hAe
                obtain ⟨_, hAe, _, _, hZj⟩ := list_atK HI.out.z HZl.out (HZa.out j hjl)
                injection hAe with hAe
                injection hAe with hAe _ _
                subst hAe
                have HSj : Hid (∀ X, CI w x.cells g5 next nds A n c l g10 (next + (KK : Int)) A3 n3 c3 l3 Xs KK (some ⟨gO, 0, none⟩) cO S (some ⟨gZ, 0, none⟩) cZ Z X → X.cell? ⟨gO, j, none⟩ = some (.int .i64 u) ∧ X.cell? ⟨gZ, j, none⟩ = some (.int .i64 (next + (j : Int)))) := Lib.hid fun X hX => ⟨hOj X hX.s, hZj X hX.z⟩
                clear hOj hZj
                have HU := Lib.hid hu
                clear hu
                by_cases hut : u = rt
                · subst hut
                  go_upto_region 30 with (fail)
                  obtain ⟨s0, s1, s2⟩ := HSr.out _ HP.out
                  have v0 := cell_regrown s0
                  have v1 := cell_regrown s1
                  have v2 := cell_regrown s2
                  have v3 := cell_regrown (HSj.out _ HI.out).1
                  refine wp_region_quiet_below (by kernel_rfl) (by kernel_rfl) ?_
                  repeat (go_big_quiet_step (fail))
                  refine wpQuiet_nil ?_
                  intro _ hw'
                  obtain ⟨⟨dq, osq⟩, hw''⟩ := hw'
                  subst hw''
                  replace HI := Lib.hid (HI.out.after (below_regrown _ dq osq))
                  replace HP := Lib.hid (HP.out.after (below_regrown _ dq osq))
                  replace HQ := Lib.hid (HQ.out.after (below_regrown _ dq osq))
                  generalize grow (redrawn _ dq) osq = wz at HI HP HQ ⊢
                  clear s0 s1 s2 v0 v1 v2 v3
                  have s1 := (HSj.out _ HI.out).2
                  go_wp2_with fail
                  go_roundw
                  case rel => exact ⟨j + 1, by omega, by go_num, by rw [want_yes HCS.out.nod HU.out], HI, HP, HQ⟩
                  case measure => simp only [intOf]; omega
                · have hub : (u == rt) = false := by rw [beq_eq_false_iff_ne]; exact hut
                  have HWn := Lib.hid (want_no (next := next) HU.out hut)
                  clear hut
                  go_upto_region 30 with (fail)
                  obtain ⟨s0, s1, s2⟩ := HSr.out _ HP.out
                  have v0 := cell_regrown s0
                  have v1 := cell_regrown s1
                  have v2 := cell_regrown s2
                  have v3 := cell_regrown (HSj.out _ HI.out).1
                  refine wp_region_quiet_below (by kernel_rfl) (by kernel_rfl) ?_
                  repeat (go_big_quiet_step (fail))
                  refine wpQuiet_nil ?_
                  intro _ hw'
                  obtain ⟨⟨dq, osq⟩, hw''⟩ := hw'
                  subst hw''
                  replace HI := Lib.hid (HI.out.after (below_regrown _ dq osq))
                  replace HP := Lib.hid (HP.out.after (below_regrown _ dq osq))
                  replace HQ := Lib.hid (HQ.out.after (below_regrown _ dq osq))
                  generalize grow (redrawn _ dq) osq = wz at HI HP HQ ⊢
                  clear s0 s1 s2 v0 v1 v2 v3
                  go_wp2_with fail
                  go_roundw
                  case rel => exact ⟨j + 1, by omega, by go_num, by rw [HWn.out], HI, HP, HQ⟩
                  case measure => simp only [intOf]; omega
              · obtain rfl : j = KK := by omega
                have HWa := Lib.hid (show wantV next S rt j = freT next S rt from by rw [← HKl.out]; exact want_all next S rt)
                obtain ⟨fr, hfr⟩ : ∃ fr, freT next S rt = fr := ⟨_, rfl⟩
                rw [HWa.out]
                rw [hfr] at HSs ⊢
                clear hfr HWa
                go_upto_region 32 with (fail)
                obtain ⟨s0, s1, s2⟩ := HSr.out _ HP.out
                obtain ⟨s3, s4, s5⟩ := HSs.out _ HQ.out
                have v0 := cell_regrown s0
                have v1 := cell_regrown s1
                have v3 := cell_regrown s3
                have v4 := cell_regrown s4
                have v5 := cell_regrown s5
                refine wp_region_quiet_below (by kernel_rfl) (by kernel_rfl) ?_
                repeat (go_big_quiet_step (fail))
                refine wpQuiet_nil ?_
                intro _ hw'
                obtain ⟨⟨dq, osq⟩, hw''⟩ := hw'
                subst hw''
                replace HI := Lib.hid (HI.out.after (below_regrown _ dq osq))
                replace HP := Lib.hid (HP.out.after (below_regrown _ dq osq))
                replace HQ := Lib.hid (HQ.out.after (below_regrown _ dq osq))
                generalize grow (redrawn _ dq) osq = wz at HI HP HQ ⊢
                clear s0 s1 s2 s3 s4 s5 v0 v1 v3 v4 v5
                go_wp2_with fail
                go_roundw
                case rel => exact ⟨k + 1, by omega, by go_num, HI, HP, HQ⟩
                case measure => simp only [intOf]; omega
          · obtain rfl : k = mr := by omega
            have p6 := (HP.out.1.cell 6).trans (show _ = some (.slice Ar k cr) from rfl)
            go_wp2_with fail
            exact HQe.out _ _ (by go_num) _ _ _ _ _ _ _ _ _ _ _ _ _ _ _ _ _ _ _ _ _ _ _ _ _ _ _ _ _ _ _ _ _ _ _ _ _ _ _ _ _ _ _ _ _ _ _ _ _ _ _ _ _ _ _ _ _ _ _ _ _ _ _ _ _ _ _ _ _ _ _ _ _ _ _ _ _ _ _ _ _ _ _ _ _ _ _ _ _ _ _ _ _ _ _ _ _ _ _ _ _ _ _ _ _ _ _ _ _ _ _ _ _ _ _ _ _ _ _ _ _ _ _ _ _ _ _ _ _ _ _ _ _ _ _ _ _ _ _ _ _ _ _ _ HI.out
end Go.Proofs.YtbkmdlfenbfdlaaGreat

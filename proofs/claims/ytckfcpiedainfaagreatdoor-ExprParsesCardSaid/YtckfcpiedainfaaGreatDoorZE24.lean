/-
  WALKS over package expr's reader: the levels.
-/
import Derived.Test.YtckfcpiedainfaaGreatDoorZE23
namespace Go.Proofs.YtckfcpiedainfaaGreatDoor
open Go Go.RowKit Go.Sort
set_option linter.unusedVariables false
set_option maxHeartbeats 800000 in
set_option maxRecDepth 20000 in
theorem or_any (w : World) (g c p : Nat) (A : Option Addr) (all : List Tok) (fin : Int) (h : RdC w g A c all fin p) (HF : LvF g A c all fin 57 2 p) :
    Calls Tryz.prog 32 #[.pointer (some ⟨g, 0, none⟩)] w (RPost w g A c all fin (rdX (.lv 1) (all.drop p))) := by
  have hmf : ∀ (fn : Fn) (first cap : Array Value) (w : World), (Instr.makeFunc fn first cap).run Tryz.prog w = .ok (.func fn first cap) w := fun _ _ _ _ => rfl
  have HS := Lib.hid (St.start h)
  rcases read_any (F := 56) (args := #[.pointer (some ⟨g, 0, none⟩), .int .i64 1, .func (.func 57) #[.pointer (some ⟨g, 0, none⟩)] #[]]) (n := 1) (p := p) w (fun X hX => row_any X g c p A all fin hX _ 1 (by decide) HF) h.rd.le with ⟨l', hr, HC⟩ | ⟨t1, p1, hr, hp1, hpl1, hz1, HC⟩
  · rw [hr]
    clear h HF hr
    go_enter Tryz.func32, Tryz.ntmps32
    go_wp2_with (go_at_call 56; (with_reducible refine (HC.out _ _ HS.out).mono ?_); rintro e w1 ⟨rfl, hg1⟩)
    exact ⟨rfl, rfl, hg1⟩
  · rw [hr]
    clear h HF hr
    go_enter Tryz.func32, Tryz.ntmps32
    go_wp2_with (go_at_call 56; (with_reducible refine (HC.out _ _ HS.out).mono ?_); rintro e w1 ⟨b1, rfl, hS1⟩; have HS1 := Lib.hid hS1; clear hS1)
    go_ret
    exact HS1.out.done
set_option maxHeartbeats 800000 in
set_option maxRecDepth 20000 in
theorem and_any (w : World) (g c p : Nat) (A : Option Addr) (all : List Tok) (fin : Int) (h : RdC w g A c all fin p) (HF : LvF g A c all fin 81 3 p) :
    Calls Tryz.prog 57 #[.pointer (some ⟨g, 0, none⟩)] w (RPost w g A c all fin (rdX (.lv 2) (all.drop p))) := by
  have hmf : ∀ (fn : Fn) (first cap : Array Value) (w : World), (Instr.makeFunc fn first cap).run Tryz.prog w = .ok (.func fn first cap) w := fun _ _ _ _ => rfl
  have HS := Lib.hid (St.start h)
  rcases read_any (F := 56) (args := #[.pointer (some ⟨g, 0, none⟩), .int .i64 2, .func (.func 81) #[.pointer (some ⟨g, 0, none⟩)] #[]]) (n := 2) (p := p) w (fun X hX => row_any X g c p A all fin hX _ 2 (by decide) HF) h.rd.le with ⟨l', hr, HC⟩ | ⟨t1, p1, hr, hp1, hpl1, hz1, HC⟩
  · rw [hr]
    clear h HF hr
    go_enter Tryz.func57, Tryz.ntmps57
    go_wp2_with (go_at_call 56; (with_reducible refine (HC.out _ _ HS.out).mono ?_); rintro e w1 ⟨rfl, hg1⟩)
    exact ⟨rfl, rfl, hg1⟩
  · rw [hr]
    clear h HF hr
    go_enter Tryz.func57, Tryz.ntmps57
    go_wp2_with (go_at_call 56; (with_reducible refine (HC.out _ _ HS.out).mono ?_); rintro e w1 ⟨b1, rfl, hS1⟩; have HS1 := Lib.hid hS1; clear hS1)
    go_ret
    exact HS1.out.done
set_option maxHeartbeats 800000 in
set_option maxRecDepth 20000 in
theorem not_any (w : World) (g c p : Nat) (A : Option Addr) (all : List Tok) (fin : Int) (h : RdC w g A c all fin p) (HF : LvF g A c all fin 98 4 p) :
    Calls Tryz.prog 81 #[.pointer (some ⟨g, 0, none⟩)] w (RPost w g A c all fin (rdX (.lv 3) (all.drop p))) := by
  have hmf : ∀ (fn : Fn) (first cap : Array Value) (w : World), (Instr.makeFunc fn first cap).run Tryz.prog w = .ok (.func fn first cap) w := fun _ _ _ _ => rfl
  have HS := Lib.hid (St.start h)
  rcases read_any (F := 97) (args := #[.pointer (some ⟨g, 0, none⟩), .int .i64 3, .func (.func 98) #[.pointer (some ⟨g, 0, none⟩)] #[]]) (n := 3) (p := p) w (fun X hX => prefix_any g c A all fin _ _ X p (Nat.le_refl _) hX HF) h.rd.le with ⟨l', hr, HC⟩ | ⟨t1, p1, hr, hp1, hpl1, hz1, HC⟩
  · rw [hr]
    clear h HF hr
    go_enter Tryz.func81, Tryz.ntmps81
    go_wp2_with (go_at_call 97; (with_reducible refine (HC.out _ _ HS.out).mono ?_); rintro e w1 ⟨rfl, hg1⟩)
    exact ⟨rfl, rfl, hg1⟩
  · rw [hr]
    clear h HF hr
    go_enter Tryz.func81, Tryz.ntmps81
    go_wp2_with (go_at_call 97; (with_reducible refine (HC.out _ _ HS.out).mono ?_); rintro e w1 ⟨b1, rfl, hS1⟩; have HS1 := Lib.hid hS1; clear hS1)
    go_ret
    exact HS1.out.done
set_option maxHeartbeats 800000 in
set_option maxRecDepth 20000 in
theorem cmp_any (w : World) (g c p : Nat) (A : Option Addr) (all : List Tok) (fin : Int) (h : RdC w g A c all fin p) (HF : LvF g A c all fin 110 5 p) :
    Calls Tryz.prog 98 #[.pointer (some ⟨g, 0, none⟩)] w (RPost w g A c all fin (rdX (.lv 4) (all.drop p))) := by
  have hmf : ∀ (fn : Fn) (first cap : Array Value) (w : World), (Instr.makeFunc fn first cap).run Tryz.prog w = .ok (.func fn first cap) w := fun _ _ _ _ => rfl
  have HS := Lib.hid (St.start h)
  rcases read_any (F := 109) (args := #[.pointer (some ⟨g, 0, none⟩), .int .i64 4, .func (.func 110) #[.pointer (some ⟨g, 0, none⟩)] #[]]) (n := 4) (p := p) w (fun X hX => pair_any X g c p A all fin hX _ HF) h.rd.le with ⟨l', hr, HC⟩ | ⟨t1, p1, hr, hp1, hpl1, hz1, HC⟩
  · rw [hr]
    clear h HF hr
    go_enter Tryz.func98, Tryz.ntmps98
    go_wp2_with (go_at_call 109; (with_reducible refine (HC.out _ _ HS.out).mono ?_); rintro e w1 ⟨rfl, hg1⟩)
    exact ⟨rfl, rfl, hg1⟩
  · rw [hr]
    clear h HF hr
    go_enter Tryz.func98, Tryz.ntmps98
    go_wp2_with (go_at_call 109; (with_reducible refine (HC.out _ _ HS.out).mono ?_); rintro e w1 ⟨b1, rfl, hS1⟩; have HS1 := Lib.hid hS1; clear hS1)
    go_ret
    exact HS1.out.done
set_option maxHeartbeats 800000 in
set_option maxRecDepth 20000 in
theorem sum_any (w : World) (g c p : Nat) (A : Option Addr) (all : List Tok) (fin : Int) (h : RdC w g A c all fin p) (HF : LvF g A c all fin 120 6 p) :
    Calls Tryz.prog 110 #[.pointer (some ⟨g, 0, none⟩)] w (RPost w g A c all fin (rdX (.lv 5) (all.drop p))) := by
  have hmf : ∀ (fn : Fn) (first cap : Array Value) (w : World), (Instr.makeFunc fn first cap).run Tryz.prog w = .ok (.func fn first cap) w := fun _ _ _ _ => rfl
  have HS := Lib.hid (St.start h)
  rcases read_any (F := 56) (args := #[.pointer (some ⟨g, 0, none⟩), .int .i64 5, .func (.func 120) #[.pointer (some ⟨g, 0, none⟩)] #[]]) (n := 5) (p := p) w (fun X hX => row_any X g c p A all fin hX _ 5 (by decide) HF) h.rd.le with ⟨l', hr, HC⟩ | ⟨t1, p1, hr, hp1, hpl1, hz1, HC⟩
  · rw [hr]
    clear h HF hr
    go_enter Tryz.func110, Tryz.ntmps110
    go_wp2_with (go_at_call 56; (with_reducible refine (HC.out _ _ HS.out).mono ?_); rintro e w1 ⟨rfl, hg1⟩)
    exact ⟨rfl, rfl, hg1⟩
  · rw [hr]
    clear h HF hr
    go_enter Tryz.func110, Tryz.ntmps110
    go_wp2_with (go_at_call 56; (with_reducible refine (HC.out _ _ HS.out).mono ?_); rintro e w1 ⟨b1, rfl, hS1⟩; have HS1 := Lib.hid hS1; clear hS1)
    go_ret
    exact HS1.out.done
set_option maxHeartbeats 800000 in
set_option maxRecDepth 20000 in
theorem prod_any (w : World) (g c p : Nat) (A : Option Addr) (all : List Tok) (fin : Int) (h : RdC w g A c all fin p) (HF : LvF g A c all fin 128 7 p) :
    Calls Tryz.prog 120 #[.pointer (some ⟨g, 0, none⟩)] w (RPost w g A c all fin (rdX (.lv 6) (all.drop p))) := by
  have hmf : ∀ (fn : Fn) (first cap : Array Value) (w : World), (Instr.makeFunc fn first cap).run Tryz.prog w = .ok (.func fn first cap) w := fun _ _ _ _ => rfl
  have HS := Lib.hid (St.start h)
  rcases read_any (F := 56) (args := #[.pointer (some ⟨g, 0, none⟩), .int .i64 6, .func (.func 128) #[.pointer (some ⟨g, 0, none⟩)] #[]]) (n := 6) (p := p) w (fun X hX => row_any X g c p A all fin hX _ 6 (by decide) HF) h.rd.le with ⟨l', hr, HC⟩ | ⟨t1, p1, hr, hp1, hpl1, hz1, HC⟩
  · rw [hr]
    clear h HF hr
    go_enter Tryz.func120, Tryz.ntmps120
    go_wp2_with (go_at_call 56; (with_reducible refine (HC.out _ _ HS.out).mono ?_); rintro e w1 ⟨rfl, hg1⟩)
    exact ⟨rfl, rfl, hg1⟩
  · rw [hr]
    clear h HF hr
    go_enter Tryz.func120, Tryz.ntmps120
    go_wp2_with (go_at_call 56; (with_reducible refine (HC.out _ _ HS.out).mono ?_); rintro e w1 ⟨b1, rfl, hS1⟩; have HS1 := Lib.hid hS1; clear hS1)
    go_ret
    exact HS1.out.done
set_option maxHeartbeats 800000 in
set_option maxRecDepth 20000 in
theorem post_any (w : World) (g c p : Nat) (A : Option Addr) (all : List Tok) (fin : Int) (h : RdC w g A c all fin p) (HF : LvF g A c all fin 133 8 p) :
    Calls Tryz.prog 128 #[.pointer (some ⟨g, 0, none⟩)] w (RPost w g A c all fin (rdX (.lv 7) (all.drop p))) := by
  have hmf : ∀ (fn : Fn) (first cap : Array Value) (w : World), (Instr.makeFunc fn first cap).run Tryz.prog w = .ok (.func fn first cap) w := fun _ _ _ _ => rfl
  have HS := Lib.hid (St.start h)
  rcases read_any (F := 132) (args := #[.pointer (some ⟨g, 0, none⟩), .int .i64 7, .func (.func 133) #[.pointer (some ⟨g, 0, none⟩)] #[]]) (n := 7) (p := p) w (fun X hX => steps_any X g c p A all fin hX _ HF) h.rd.le with ⟨l', hr, HC⟩ | ⟨t1, p1, hr, hp1, hpl1, hz1, HC⟩
  · rw [hr]
    clear h HF hr
    go_enter Tryz.func128, Tryz.ntmps128
    go_wp2_with (go_at_call 132; (with_reducible refine (HC.out _ _ HS.out).mono ?_); rintro e w1 ⟨rfl, hg1⟩)
    exact ⟨rfl, rfl, hg1⟩
  · rw [hr]
    clear h HF hr
    go_enter Tryz.func128, Tryz.ntmps128
    go_wp2_with (go_at_call 132; (with_reducible refine (HC.out _ _ HS.out).mono ?_); rintro e w1 ⟨b1, rfl, hS1⟩; have HS1 := Lib.hid hS1; clear hS1)
    go_ret
    exact HS1.out.done
theorem lvF_mk {g c n p : Nat} {A : Option Addr} {all : List Tok} {fin : Int} {F : FuncId} (he : ∀ args X, Sem.run Tryz.prog (callFunc F args) X = .ok (.enter F args) X) (h0 : ∀ X, RdC X g A c all fin p → Calls Tryz.prog F #[.pointer (some ⟨g, 0, none⟩)] X (RPost X g A c all fin (rdX (.lv n) (all.drop p)))) (h1 : LvF g A c all fin F n (p + 1)) : LvF g A c all fin F n p :=
  ⟨he, fun X q hq hR => by
    rcases Nat.lt_or_ge p q with h | h
    · exact h1.call X q h hR
    · obtain rfl : p = q := by omega
      exact h0 X hR⟩
end Go.Proofs.YtckfcpiedainfaaGreatDoor

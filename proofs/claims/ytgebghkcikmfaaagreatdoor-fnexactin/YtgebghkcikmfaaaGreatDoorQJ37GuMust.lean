/-
  What can't be gives up by a panic, made a number again by recover: must, orGivenUp. By the verifier.
-/
import Derived.Test.YtgebghkcikmfaaaGreatDoorRows
import Derived.WalkKit
import Derived.WalkSpells
import Derived.WalkLawsBesides
import Derived.RowKit3
import Derived.Defers
import Derived.Recover
import Derived.Below
namespace Go.Proofs.YtgebghkcikmfaaaGreatDoor
open Go.RowKit

/-- What is thrown where something can't be. -/
abbrev gaveUp (k : Int) : Value := .iface 154 (.agg #[.int .i64 k])

theorem implMust (can : Bool) (k : Int) (w : World) :
    Calls Tryz.prog 107 #[.bool can, .int .i64 k] w fun e w' => e = (if can = true then .returned (.tuple #[]) else .panicked [{ v := gaveUp k, recovered := false }]) ∧ w' = w := by
  cases can
  · rw [if_neg (by decide)]
    go_enter Tryz.func107, Tryz.ntmps107
    go_wp2
    first | exact ⟨⟨rfl, rfl⟩, rfl⟩ | exact ⟨rfl, rfl, rfl⟩ | (trace_state; done)
  · rw [if_pos rfl]
    go_enter Tryz.func107, Tryz.ntmps107
    go_wp2
    go_end0
    exact ⟨rfl, rfl⟩

theorem caughtNone (p : Addr) (w : World) :
    CallsD Tryz.prog 102 #[.pointer (some p)] .returning w fun e u' w' => e = .returned (.tuple #[]) ∧ u' = .returning ∧ w' = w := by
  refine callsD_of_wpS Tryz.func102 rfl fun c₀ cs hu => ?_
  apply wpS_seq
  apply wpS_region
  simp [wpOpsS, go_sem, recoverD, hu, Tryz.ntmps102, Exit.thenS]
  apply wpS_seq
  apply wpS_region
  simp [wpOpsS, go_sem, Exit.thenS]
  refine wpS_cond (t := false) (by simp [Act.eval, Array.replicate]) ?_
  rw [if_neg (by decide)]
  refine wpS_of_wp (wp_skip ?_)
  cases c₀
  simp_all [bodyPostS, results, Tryz.results102]

theorem asGivenUp (v : Value) (w : World) : (Instr.typeAssert (.iface 154 v) 20 154 false).run Tryz.prog w = .ok v w := by kernel_rfl

theorem fieldGivenUp (k : Int) (w : World) : (Instr.field 154 (.agg #[.int .i64 k]) 0).run Tryz.prog w = .ok (.int .i64 k) w := by kernel_rfl

theorem caughtGivenUp (p : Addr) (k y : Int) (w : World) (hc : w.cell? p = some (.int .i64 y)) (hf : w.frozen? p = false) :
    CallsD Tryz.prog 102 #[.pointer (some p)] (.panicking [{ v := gaveUp k, recovered := false }]) w fun e u' w' => e = .returned (.tuple #[]) ∧ u' = .panicking [{ v := gaveUp k, recovered := true }] ∧ w' = w.setCell p (.int .i64 k) := by
  have hta := fun w => asGivenUp (.agg #[.int .i64 k]) w
  have hfd := fun w => fieldGivenUp k w
  refine callsD_of_wpS Tryz.func102 rfl fun c₀ cs hu => ?_
  apply wpS_seq
  apply wpS_region
  simp [wpOpsS, go_sem, recoverD, hu, Tryz.ntmps102, Exit.thenS]
  apply wpS_seq
  apply wpS_region
  simp [wpOpsS, go_sem, Exit.thenS]
  refine wpS_cond (t := true) (by simp [Act.eval, Array.replicate]) ?_
  simp only [if_true]
  apply wpS_region
  simp [wpOpsS, go_sem, hta, hfd, hc, hf]
  cases c₀
  simp_all [bodyPostS, results, Tryz.results102]

set_option maxHeartbeats 1600000 in
set_option maxRecDepth 100000 in
theorem implOrGivenUp (F : FuncId) (cap : Array Value) (w : World) (P : Int → World → Prop) (hF : ∀ w', (callFunc F cap).run Tryz.prog w' = .ok (.enter F cap) w')
    (h : Calls Tryz.prog F cap (w.alloc (.cells #[.int .i64 0] 2)) fun e w' => ∃ a, (e = .returned (.int .i64 a) ∨ e = .panicked [{ v := gaveUp a, recovered := false }]) ∧ P a w' ∧ w'.cell? ⟨w.heap.size, 0, none⟩ = some (.int .i64 0) ∧ w'.frozen? ⟨w.heap.size, 0, none⟩ = false) :
    Calls Tryz.prog 35 #[.func (.func F) #[] cap] w fun e w' => ∃ a w1, e = .returned (.int .i64 a) ∧ P a w1 ∧ w' = w1.setCell ⟨w.heap.size, 0, none⟩ (.int .i64 a) := by
  have hmf : ∀ (fn : Fn) (first cap : Array Value) (w : World), (Instr.makeFunc fn first cap).run Tryz.prog w = .ok (.func fn first cap) w := fun _ _ _ _ => rfl
  have H : Hid _ := h
  clear h
  go_enter_defers Tryz.func35, Tryz.ntmps35
  go_wp2_with fail
  refine Calls.mono H.out ?_
  rintro e w1 ⟨a, he, hp, hc, hf⟩
  rcases he with rfl | rfl
  · go_wp2
    refine leaves_cons (f := 102) (args := #[.pointer (some ⟨w.heap.size, 0, none⟩)]) (by simp) (by simp [go_sem]) ?_
    refine (caughtNone ⟨w.heap.size, 0, none⟩ _).mono ?_
    rintro e u' w'' ⟨rfl, rfl, rfl⟩
    have hcell : (w1.setCell ⟨w.heap.size, 0, none⟩ (.int .i64 a)).cell? ⟨w.heap.size, 0, none⟩ = some (.int .i64 a) := World.cell?_setCell_same _ _ _ hc
    simp [Leaves, settle, results, Tryz.results35, go_sem, hcell]
    exact ⟨w1, hp, rfl⟩
  · go_wp2
    refine leaves_cons (f := 102) (args := #[.pointer (some ⟨w.heap.size, 0, none⟩)]) (by simp) (by simp [go_sem]) ?_
    refine (caughtGivenUp ⟨w.heap.size, 0, none⟩ a 0 _ hc hf).mono ?_
    rintro e u' w'' ⟨rfl, rfl, rfl⟩
    have hcell : (w1.setCell ⟨w.heap.size, 0, none⟩ (.int .i64 a)).cell? ⟨w.heap.size, 0, none⟩ = some (.int .i64 a) := World.cell?_setCell_same _ _ _ hc
    simp [Leaves, settle, results, Tryz.results35, go_sem, hcell]
    exact ⟨w1, hp, rfl⟩
end Go.Proofs.YtgebghkcikmfaaaGreatDoor

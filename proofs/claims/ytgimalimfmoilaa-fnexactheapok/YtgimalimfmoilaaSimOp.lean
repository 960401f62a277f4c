/-
  Two runs that part in one function value alone: what one operation does. By the verifier.
-/
import Derived.Test.YtgimalimfmoilaaSim
import Derived.Test.YtgimalimfmoilaaSimDead
import Derived.Shelf.Abstract
namespace Go.Proofs.Ytgimalimfmoilaa
open Go Go.Shelf

/-- What an operation that calls nothing comes to. -/
def Shape : Result Next → Prop
  | .ok (.value _) _ => True
  | .ok .skip _ => True
  | .halt _ _ => True
  | _ => False
theorem shape_bind {α : Type} {P : Program} {s : Sem α} {f : α → Sem Next} (h : ∀ x w, Shape ((f x).run P w)) (w : World) : Shape ((s >>= f).run P w) := by
  rw [Sem.run_bind]
  cases s.run P w with
  | ok a w1 => exact h a w1
  | halt e w1 => trivial
theorem shape_value {P : Program} (v : Value) (w : World) : Shape ((pure (Next.value v) : Sem Next).run P w) := trivial
theorem shape_skip {P : Program} (w : World) : Shape ((pure Next.skip : Sem Next).run P w) := trivial
theorem shape_halt {P : Program} (h : Halt) (w : World) : Shape ((Sem.halt h : Sem Next).run P w) := trivial
theorem shape_deref {P : Program} (w : World) : Shape ((runtimePanic .nilDeref : Sem Next).run P w) := by
  unfold runtimePanic
  refine shape_bind (fun _ _ => ?_) w
  exact shape_halt _ _
theorem shape_plain {P : Program} {o : Oper} (h : plainOp o.op = true) (ρ : Operand → Value) (w : World) : Shape ((execOp ρ o).run P w) := by
  obtain ⟨dst, op, type, pos, after, guard⟩ := o
  cases op <;> simp only [plainOp] at h <;> first | (cases h; done) | skip
  all_goals simp only [execOp]
  case nilCheck x =>
    split
    · exact shape_deref w
    · exact shape_deref w
    · exact shape_deref w
    · split
      · exact shape_deref w
      · refine shape_bind (fun _ w => shape_bind (fun _ w => ?_) w) w
        split
        · exact shape_halt _ _
        · exact shape_value _ _
      · exact shape_value _ _
    · exact shape_value _ _
  all_goals (refine shape_bind (fun _ _ => ?_) w; first | exact shape_value _ _ | exact shape_skip _)
theorem shape_len {P : Program} {o : Oper} {c : Call} (ho : o.op = .call c) (hc : c.callee = .builtin .len) (ρ : Operand → Value) (w : World) : Shape ((execOp ρ o).run P w) := by
  simp only [execOp, ho, resolve, hc]
  rw [Sem.run_bind]
  simp only [Sem.run_pure, Result.andThen_ok, invoke, builtin]
  exact shape_bind (fun _ _ => shape_value _ _) w
theorem callFunc_ok {P : Program} {T : FuncId → Option (List Tmp)} {g : FuncId} {G : List Tmp} (h : okFn P T g G = true) (args : Array Value) (w : World) : (callFunc g args).run P w = .ok (.enter g args) w := by
  unfold okFn at h
  cases hf : P.funcs[g]? with
  | none => rw [hf] at h; cases h
  | some fn =>
    rw [hf] at h
    simp only [Bool.and_eq_true, bne_iff_ne, ne_eq] at h
    cases hb : fn.body with
    | none => rw [hb] at h; exact absurd h.1.1 (by simp)
    | some c =>
      have hn : (fn.name == "runtime.NumGoroutine") = false := by simpa using h.1.2
      exact enters_of hf hn hb args w
end Go.Proofs.Ytgimalimfmoilaa

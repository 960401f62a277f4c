/-
  One operation of a region: a variable laid, a slot assigned, a call by its contract. By the verifier.
-/
import Derived.Test.YtgebghkcikmfaaaGreatDoorQJ17RegList
import Derived.Laws.Rows
import Derived.Laws.Tables
namespace Go.Proofs.YtgebghkcikmfaaaGreatDoor
open Go.RowKit

theorem op_assignZ {P : Program} {o : Oper} {a : Act} {w : World} {K : Act → World → Prop} {Q : Exit → Act → World → Prop} (t : Tmp) (ho : o.op = .assign (.tmp t)) (h : K (a.put o.dst (a.tmps.getD t undef)) w) : o.wp P a w K Q := by
  unfold Oper.wp
  simp [execOp, ho, Act.eval, Oper.upon]
  simpa using h
theorem op_callR {P : Program} {o : Oper} {a : Act} {w : World} {K : Act → World → Prop} {Q : Exit → Act → World → Prop} {f : FuncId} {args : Array Value} (hrun : (execOp a.eval o).run P w = .ok (.enter f args) w) {post : Ending → World → Prop} (hc : Calls P f args w post)
    (h : ∀ e w', post e w' → ∃ v, e = .returned v ∧ K (a.put o.dst v) w') : o.wp P a w K Q := by
  unfold Oper.wp
  rw [hrun, Oper.upon_enter]
  refine hc.mono fun e w'' hh => ?_
  obtain ⟨v, rfl, hk⟩ := h e w'' hh
  exact hk
end Go.Proofs.YtgebghkcikmfaaaGreatDoor

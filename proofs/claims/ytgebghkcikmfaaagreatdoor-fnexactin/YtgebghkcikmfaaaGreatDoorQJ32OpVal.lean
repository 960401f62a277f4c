/-
  Single operations of a region: a value told, a slot moved, a check of a pointer. By the verifier.
-/
import Derived.Test.YtgebghkcikmfaaaGreatDoorQJ17RegList
namespace Go.Proofs.YtgebghkcikmfaaaGreatDoor
open Go.RowKit

theorem op_valY {P : Program} {o : Oper} {a : Act} {w w' : World} {K : Act → World → Prop} {Q : Exit → Act → World → Prop} {v : Value} (hr : (execOp a.eval o).run P w = .ok (.value v) w') (h : K (a.put o.dst v) w') : o.wp P a w K Q := by
  unfold Oper.wp
  rw [hr]
  exact h
theorem op_moveY {P : Program} {o : Oper} {a : Act} {w : World} {K : Act → World → Prop} {Q : Exit → Act → World → Prop} (t : Tmp) (ho : o.op = .move (.tmp t)) (h : K (a.put o.dst (a.tmps.getD t undef)) w) : o.wp P a w K Q := by
  unfold Oper.wp
  simp [execOp, ho, Act.eval, Oper.upon]
  simpa using h
end Go.Proofs.YtgebghkcikmfaaaGreatDoor

/-
  A record of 3 numbers (Steer) as plain data. By the verifier, by program.
-/
import Derived.RowKit3
import Derived.Below
import Derived.Test.YtemegnfefjcdaaaDoorFrPlain
import Derived.Test.YtemegnfefjcdaaaDoorRows
namespace Go.Proofs.YtemegnfefjcdaaaDoor
open Go.RowKit

structure Sr where
  target : Int
  old : Int
  prob : Int
/-- As a value. -/
def Sr.val (r : Sr) : Value := .agg #[.int .i64 r.target, .int .i64 r.old, .int .i64 r.prob]
/-- Its cells. -/
def Sr.cells (r : Sr) : List Value := [.int .i64 r.target, .int .i64 r.old, .int .i64 r.prob]
theorem srInfo : (Tryd.prog.info? 25).map (fun i => (i.zero, i.size, i.bytes)) = some (some (.agg #[.int .i64 0, .int .i64 0, .int .i64 0]), 3, 24) := by kernel_rfl
theorem srOnes (v0 v1 v2 : Int) : (#[Value.int .i64 v0, Value.int .i64 v1, Value.int .i64 v2] : Array Value).all (·.oneCell') = true := by simp [Value.oneCell']
end Go.Proofs.YtemegnfefjcdaaaDoor

/-
  A record of 5 numbers (Pace) as plain data. By the verifier, by program.
-/
import Derived.RowKit3
import Derived.Below
import Derived.Test.YtkdofeanpcbihaaFrPlain
import Derived.Test.YtkdofeanpcbihaaRows
namespace Go.Proofs.Ytkdofeanpcbihaa
open Go.RowKit

structure Pe where
  gap : Int
  slack : Int
  next : Int
  fill : Int
  last : Int
/-- As a value. -/
def Pe.val (r : Pe) : Value := .agg #[.int .i64 r.gap, .int .i64 r.slack, .int .i64 r.next, .int .i64 r.fill, .int .i64 r.last]
/-- Its cells. -/
def Pe.cells (r : Pe) : List Value := [.int .i64 r.gap, .int .i64 r.slack, .int .i64 r.next, .int .i64 r.fill, .int .i64 r.last]
theorem peInfo : (Try.prog.info? 25).map (fun i => (i.zero, i.size, i.bytes)) = some (some (.agg #[.int .i64 0, .int .i64 0, .int .i64 0, .int .i64 0, .int .i64 0]), 5, 40) := by kernel_rfl
theorem peOnes (v0 v1 v2 v3 v4 : Int) : (#[Value.int .i64 v0, Value.int .i64 v1, Value.int .i64 v2, Value.int .i64 v3, Value.int .i64 v4] : Array Value).all (·.oneCell') = true := by simp [Value.oneCell']
end Go.Proofs.Ytkdofeanpcbihaa

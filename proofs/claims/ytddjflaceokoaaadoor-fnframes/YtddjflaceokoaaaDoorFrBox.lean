/-
  A struct's block as one fact: a field put, all fields put. By the verifier.
-/
import Derived.Test.YtddjflaceokoaaaDoorFrHead
import Derived.Laws.Rows
import Derived.Laws.Tables
namespace Go.Proofs.YtddjflaceokoaaaDoor
open Go.RowKit

/-- A frame's eleven cells are one cell each. -/
theorem frameOne (b c d e f g h i j : Int) (s : Option Addr) (l cap : Nat) (x : ByteArray) : (#[Value.int .i64 b, .int .i64 c, .slice s l cap, .int .i64 d, .int .i64 e, .int .i64 f, .int .i64 g, .int .i64 h, .int .i64 i, .int .i64 j, .string x] : Array Value).all (·.oneCell') = true := by
  simp [Value.oneCell']
end Go.Proofs.YtddjflaceokoaaaDoor

/-
  No gate, as memory; the cells of a gate. By the verifier.
-/
import Derived.Test.YtgebghkcikmfaaaGreatDoorQJ3SrPlain
import Derived.Test.YtgebghkcikmfaaaGreatDoorQJ11GtFacts
namespace Go.Proofs.YtgebghkcikmfaaaGreatDoor
open Go.RowKit

theorem Gt.cells_size (g : Gt) (x : Ga) : (g.cells x).size = 14 := rfl
theorem Gt.cells_one (g : Gt) (x : Ga) : (g.cells x).all (·.oneCell') = true := by simp [Gt.cells, Value.oneCell']
theorem GtO.zero (b : Nat) (w : World) : GtO b w ⟨none, 0, none, 0, none, 0, none, 0, none, 0, none, 0, none, 0⟩ [] [] Gt.zero :=
  ⟨World.ownsRow_nil _ _ _ _, World.ownsRow_nil _ _ _ _, World.ownsRow_nil _ _ _ _, World.ownsRow_nil _ _ _ _, IzG.nil _ _, World.ownsRow_nil _ _ _ _, FwG.nil _ _, fun i k hi => by simp [Gt.zero] at hi⟩
theorem GtLie.zero (b : Nat) (w : World) : GtLie b w.heap.size w (.agg #[.int .i64 0, .int .i64 0, .int .i64 0, .slice none 0 0, .slice none 0 0, .slice none 0 0, .slice none 0 0, .int .i64 0, .slice none 0 0, .slice none 0 0, .int .i64 0, .slice none 0 0, .int .i64 0, .int .i64 0]) Gt.zero := (GtO.zero b w).lie
end Go.Proofs.YtgebghkcikmfaaaGreatDoor

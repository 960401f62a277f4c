/-
  What a call may do to memory that only lays new blocks. By the verifier.
-/
import Derived.RowKit3
import Derived.Below
namespace Go.Proofs.Ytppgidcebhfjkaa
open Go.RowKit

theorem grown_trans {A B C : World} (h : Grown A B) (g : Grown B C) : Grown A C :=
  ⟨World.keptBut_trans h.1 g.1, fun a => (g.2.1 a).trans (h.2.1 a), Nat.le_trans h.2.2 g.2.2⟩
/-- New blocks alone. -/
def New (w w' : World) : Prop := Grown w w' ∧ Below w.heap.size w w'
theorem New.refl (w : World) : New w w := ⟨Grown.refl _, Below.refl _ _⟩
theorem New.drew {a w : World} (h : New a w) : New a w.drew := ⟨h.1.drew, h.2.drew⟩
theorem New.alloc {a w : World} (h : New a w) (c : Array Value) (t : TypeId) : New a (w.alloc (.cells c t)) := ⟨h.1.alloc c t, h.2.alloc h.2.size _⟩
theorem New.trans {a b c : World} (h : New a b) (g : New b c) : New a c := ⟨grown_trans h.1 g.1, h.2.trans (g.2.mono h.2.size)⟩
end Go.Proofs.Ytppgidcebhfjkaa

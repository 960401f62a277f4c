/-
  A record (Steer) that came in, opened: its numbers. By the verifier, by program.
-/
import Derived.Test.YtemegnfefjcdaaaDoorSrRec
import Derived.Test.YtemegnfefjcdaaaDoorField
namespace Go.Proofs.YtemegnfefjcdaaaDoor
open Go.ChangeShapes Go.WideShapes Go.ChangeAt Go.RowKit

theorem srArray {cs : Array Value} (h : cs.size = 3) : ∃ c0 c1 c2, cs = #[c0, c1, c2] := by
  obtain ⟨l⟩ := cs
  match l, h with
  | [c0, c1, c2], _ => exact ⟨c0, c1, c2, rfl⟩
theorem sr_open {H : Type} {enc : TypeId × Value → H} {W : World} {r : Reach} {b0 base : Nat} {spare : Nat → Bool} {held : Bool} {v : Value} {d : DataW H} {p : List MemPlace} (hv : Value.okWide Tryd.prog W r b0 35 v)
    (h : DataW.Trod enc Tryd.prog W base spare held 35 v d p) : ∃ x : Sr, v = x.val := by
  obtain ⟨cs, rfl, hsz⟩ := okWide_struct Tryd.underlying35 hv
  obtain ⟨c0, c1, c2, rfl⟩ := srArray (hsz.trans (by kernel_rfl))
  obtain ⟨fuel, hf⟩ := h
  have hf' : DataW.trod enc Tryd.prog W base spare held fuel 35 [c0, c1, c2] = some (d, p) := by simpa [Value.cells] using hf
  obtain ⟨n0, rfl⟩ := int_field Tryd.underlying35 hf' 0 _ rfl rfl (by kernel_rfl) .i64 Tryd.underlying2 c0 rfl
  obtain ⟨n1, rfl⟩ := int_field Tryd.underlying35 hf' 1 _ rfl rfl (by kernel_rfl) .i64 Tryd.underlying2 c1 rfl
  obtain ⟨n2, rfl⟩ := int_field Tryd.underlying35 hf' 2 _ rfl rfl (by kernel_rfl) .i64 Tryd.underlying2 c2 rfl
  exact ⟨⟨n0, n1, n2⟩, rfl⟩
end Go.Proofs.YtemegnfefjcdaaaDoor

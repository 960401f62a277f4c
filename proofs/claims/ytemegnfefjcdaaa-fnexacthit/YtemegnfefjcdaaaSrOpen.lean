/-
  A record (Steer) that came in, opened: its numbers. By the verifier, by program.
-/
import Derived.Test.YtemegnfefjcdaaaSrRec
import Derived.Test.YtemegnfefjcdaaaField
namespace Go.Proofs.Ytemegnfefjcdaaa
open Go.ChangeShapes Go.WideShapes Go.ChangeAt Go.RowKit

theorem srArray {cs : Array Value} (h : cs.size = 3) : ∃ c0 c1 c2, cs = #[c0, c1, c2] := by
  obtain ⟨l⟩ := cs
  match l, h with
  | [c0, c1, c2], _ => exact ⟨c0, c1, c2, rfl⟩
theorem sr_open {H : Type} {enc : TypeId × Value → H} {W : World} {r : Reach} {b0 base : Nat} {spare : Nat → Bool} {held : Bool} {v : Value} {d : DataW H} {p : List MemPlace} (hv : Value.okWide Try.prog W r b0 23 v)
    (h : DataW.Trod enc Try.prog W base spare held 23 v d p) : ∃ x : Sr, v = x.val := by
  obtain ⟨cs, rfl, hsz⟩ := okWide_struct Try.underlying23 hv
  obtain ⟨c0, c1, c2, rfl⟩ := srArray (hsz.trans (by kernel_rfl))
  obtain ⟨fuel, hf⟩ := h
  have hf' : DataW.trod enc Try.prog W base spare held fuel 23 [c0, c1, c2] = some (d, p) := by simpa [Value.cells] using hf
  obtain ⟨n0, rfl⟩ := int_field Try.underlying23 hf' 0 _ rfl rfl (by kernel_rfl) .i64 Try.underlying2 c0 rfl
  obtain ⟨n1, rfl⟩ := int_field Try.underlying23 hf' 1 _ rfl rfl (by kernel_rfl) .i64 Try.underlying2 c1 rfl
  obtain ⟨n2, rfl⟩ := int_field Try.underlying23 hf' 2 _ rfl rfl (by kernel_rfl) .i64 Try.underlying2 c2 rfl
  exact ⟨⟨n0, n1, n2⟩, rfl⟩
end Go.Proofs.Ytemegnfefjcdaaa

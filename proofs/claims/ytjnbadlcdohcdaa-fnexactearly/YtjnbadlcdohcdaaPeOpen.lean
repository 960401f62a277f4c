/-
  A record (Pace) that came in, opened: its numbers. By the verifier, by program.
-/
import Derived.Test.YtjnbadlcdohcdaaPeRec
import Derived.Test.YtjnbadlcdohcdaaField
namespace Go.Proofs.Ytjnbadlcdohcdaa
open Go.ChangeShapes Go.WideShapes Go.ChangeAt Go.RowKit

theorem peArray {cs : Array Value} (h : cs.size = 5) : ∃ c0 c1 c2 c3 c4, cs = #[c0, c1, c2, c3, c4] := by
  obtain ⟨l⟩ := cs
  match l, h with
  | [c0, c1, c2, c3, c4], _ => exact ⟨c0, c1, c2, c3, c4, rfl⟩
theorem pe_open {H : Type} {enc : TypeId × Value → H} {W : World} {r : Reach} {b0 base : Nat} {spare : Nat → Bool} {held : Bool} {v : Value} {d : DataW H} {p : List MemPlace} (hv : Value.okWide Try.prog W r b0 36 v)
    (h : DataW.Trod enc Try.prog W base spare held 36 v d p) : ∃ x : Pe, v = x.val := by
  obtain ⟨cs, rfl, hsz⟩ := okWide_struct Try.underlying36 hv
  obtain ⟨c0, c1, c2, c3, c4, rfl⟩ := peArray (hsz.trans (by kernel_rfl))
  obtain ⟨fuel, hf⟩ := h
  have hf' : DataW.trod enc Try.prog W base spare held fuel 36 [c0, c1, c2, c3, c4] = some (d, p) := by simpa [Value.cells] using hf
  obtain ⟨n0, rfl⟩ := int_field Try.underlying36 hf' 0 _ rfl rfl (by kernel_rfl) .i64 Try.underlying2 c0 rfl
  obtain ⟨n1, rfl⟩ := int_field Try.underlying36 hf' 1 _ rfl rfl (by kernel_rfl) .i64 Try.underlying2 c1 rfl
  obtain ⟨n2, rfl⟩ := int_field Try.underlying36 hf' 2 _ rfl rfl (by kernel_rfl) .i64 Try.underlying2 c2 rfl
  obtain ⟨n3, rfl⟩ := int_field Try.underlying36 hf' 3 _ rfl rfl (by kernel_rfl) .i64 Try.underlying2 c3 rfl
  obtain ⟨n4, rfl⟩ := int_field Try.underlying36 hf' 4 _ rfl rfl (by kernel_rfl) .i64 Try.underlying2 c4 rfl
  exact ⟨⟨n0, n1, n2, n3, n4⟩, rfl⟩
end Go.Proofs.Ytjnbadlcdohcdaa

/-
  A record of a number and a list (Fairness) that came in, opened. By the verifier, by program.
-/
import Derived.Test.YtllmkolchgmjoaaFwOpen
import Derived.Test.YtllmkolchgmjoaaFsStr
namespace Go.Proofs.Ytllmkolchgmjoaa
open Go.ChangeShapes Go.WideShapes Go.ChangeAt Go.RowKit

theorem fsArray {cs : Array Value} (h : cs.size = 2) : ∃ c0 c1, cs = #[c0, c1] := by
  obtain ⟨l⟩ := cs
  match l, h with
  | [c0, c1], _ => exact ⟨c0, c1, rfl⟩
set_option maxRecDepth 100000 in
theorem fs_open {H : Type} {enc : TypeId × Value → H} {W : World} {x : Reach} {b0 base : Nat} {spare : Nat → Bool} {held : Bool} {v : Value} {d : DataW H} {p : List MemPlace} (hv : Value.okWide Try.prog W x b0 46 v)
    (h : DataW.Trod enc Try.prog W base spare held 46 v d p) : ∃ (r : Fs) (a : Option Addr) (c : Nat), v = r.val a c ∧ FwsAt W a r.flows ∧ (r.flows.length : Int) ≤ 9223372036854775807 ∧ ∀ k, k < r.flows.length → ((fwAt r.flows k).sizes.length : Int) ≤ 9223372036854775807 := by
  obtain ⟨cs, rfl, hsz⟩ := okWide_struct Try.underlying46 hv
  obtain ⟨c0, c1, rfl⟩ := fsArray (hsz.trans (by kernel_rfl))
  obtain ⟨fuel, hf⟩ := h
  have hf' : DataW.trod enc Try.prog W base spare held fuel 46 [c0, c1] = some (d, p) := by simpa [Value.cells] using hf
  obtain ⟨n0, rfl⟩ := int_field Try.underlying46 hf' 0 _ rfl rfl (by kernel_rfl) .i64 Try.underlying2 c0 rfl
  obtain ⟨n1, y, hy⟩ := field_of Try.underlying46 hf' 1 _ rfl rfl (by kernel_rfl) c1 rfl
  obtain ⟨ls, a, c, rfl, h1, h2, h3⟩ := fws_trod hy
  exact ⟨⟨n0, ls⟩, a, c, rfl, h1, h2, h3⟩
end Go.Proofs.Ytllmkolchgmjoaa

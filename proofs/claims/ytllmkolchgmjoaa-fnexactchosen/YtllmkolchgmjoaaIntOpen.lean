/-
  A list of numbers that came in, opened. By the verifier.
-/
import Derived.Test.YtllmkolchgmjoaaFrPlain
import Derived.Test.YtllmkolchgmjoaaField
namespace Go.Proofs.Ytllmkolchgmjoaa
open Go.ChangeShapes Go.WideShapes Go.ChangeAt Go.RowKit

set_option maxRecDepth 100000 in
theorem ints_trod {H : Type} {enc : TypeId × Value → H} {W : World} {base : Nat} {spare : Nat → Bool} {held : Bool} {v : Value} {fuel : Nat} {y : DataW H × List MemPlace}
    (hf : DataW.trod enc Try.prog W base spare held fuel 34 [v] = some y) : ∃ (l : List Int) (a : Option Addr) (cap : Nat), v = .slice a l.length cap ∧ IntsAt W a l ∧ (l.length : Int) ≤ 9223372036854775807 ∧ l.length ≤ cap ∧ (a = none → cap = 0) := by
  rcases open_ints Try.underlying34 Try.underlying2 (by kernel_rfl) hf with ⟨e2, _⟩ | ⟨x, l, c, zs, e2, _, hl, hm, hz, _, hcell, _⟩
  · obtain rfl : v = .slice none 0 0 := by simpa using e2
    exact ⟨[], none, 0, rfl, IntsAt.nil _ _, by simp, by simp, fun _ => rfl⟩
  · obtain rfl : v = .slice (some x) l c := by simpa using e2
    rw [maxLen] at hm
    have hlz : l ≤ zs.length := by rw [hz]; split <;> omega
    have htl : (zs.take l).length = l := by rw [List.length_take]; omega
    refine ⟨zs.take l, some x, c, by rw [htl], ?_, by rw [htl]; omega, by rw [htl]; exact hl, fun h => by cases h⟩
    intro k hk
    rw [htl] at hk
    obtain ⟨b, off, spot⟩ := x
    have hspot : spot = none := by simpa [Addr.add] using World.cell?_spot (hcell 0 (by omega))
    subst hspot
    have hc := hcell k (by omega)
    have hc0 : W.cell? ⟨b, off + k, none⟩ = some (.int .i64 (zs.getD k 0)) := by
      by_cases hk0 : k = 0
      · subst hk0; simpa [Addr.add] using hc
      · simpa [Addr.add, hk0] using hc
    refine ⟨b, off, rfl, World.block_lt_of_cell? _ _ hc0, ?_⟩
    rw [hc0, List.getElem?_take_of_lt hk]
    simp [List.getD]
end Go.Proofs.Ytllmkolchgmjoaa

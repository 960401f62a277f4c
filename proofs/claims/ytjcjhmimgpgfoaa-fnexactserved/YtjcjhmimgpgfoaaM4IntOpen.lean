import Derived.Test.YtjcjhmimgpgfoaaRows
import Derived.WalkKit
import Derived.ProofKit
import Derived.OpenShut
import Derived.ShutString
import Derived.ChangeOld
import Derived.Below
import Derived.Deep.Slices
import Derived.Test.YtjcjhmimgpgfoaaFrPlain
/-
  A field of a struct that came in. By the verifier.
-/
namespace Go.Proofs.Ytjcjhmimgpgfoaa
open Go.ChangeShapes Go.WideShapes Go.ChangeAt Go.RowKit

theorem field_of {H : Type} {enc : TypeId × Value → H} {P : Program} {w : World} {base : Nat} {spare : Nat → Bool} {held : Bool} {t : TypeId} {fs : Array Field} {fuel : Nat} {cs : List Value} {x : DataW H × List MemPlace}
    (ht : P.underlying t = some (.struct fs)) (h : DataW.trod enc P w base spare held fuel t cs = some x) (j : Nat) (f : Field) (hj : fs[j]? = some f) (ho : f.offset = j) (hk : P.cellsOf f.type = 1) (c : Value) (hc : cs[j]? = some c) :
    ∃ n y, DataW.trod enc P w base spare held n f.type [c] = some y := by
  obtain ⟨xs, n, _, rfl, hl, hlen, hf⟩ := DataW.trod_struct ht h
  have h1 := hf j f hj
  have hlt : j < fs.size := by
    apply Classical.byContradiction
    intro hn
    rw [Array.getElem?_eq_none (by omega)] at hj
    cases hj
  have hx : xs[j]? = some xs[j] := List.getElem?_eq_getElem (by omega)
  have hcl : j < cs.length := (List.getElem?_eq_some_iff.1 hc).1
  have hd : (cs.drop f.offset).take (P.cellsOf f.type) = [c] := by
    rw [ho, hk, List.drop_eq_getElem_cons hcl]
    simp [(List.getElem?_eq_some_iff.1 hc).2]
  rw [hd, hx] at h1
  exact ⟨n, _, h1⟩

theorem int_field {H : Type} {enc : TypeId × Value → H} {P : Program} {w : World} {base : Nat} {spare : Nat → Bool} {held : Bool} {t : TypeId} {fs : Array Field} {fuel : Nat} {cs : List Value} {x : DataW H × List MemPlace}
    (ht : P.underlying t = some (.struct fs)) (h : DataW.trod enc P w base spare held fuel t cs = some x) (j : Nat) (f : Field) (hj : fs[j]? = some f) (ho : f.offset = j) (hk : P.cellsOf f.type = 1) (k : IntKind) (hu : P.underlying f.type = some (.int k)) (c : Value) (hc : cs[j]? = some c) :
    ∃ n : Int, c = .int k n := by
  obtain ⟨m, y, hy⟩ := field_of ht h j f hj ho hk c hc
  obtain ⟨n, e, _⟩ := DataW.trod_int hu hy
  exact ⟨n, by simpa using e⟩
end Go.Proofs.Ytjcjhmimgpgfoaa

/-
  A list of numbers that came in, opened. By the verifier.
-/
namespace Go.Proofs.Ytjcjhmimgpgfoaa
open Go.ChangeShapes Go.WideShapes Go.ChangeAt Go.RowKit

theorem ints_trod {H : Type} {enc : TypeId × Value → H} {W : World} {base : Nat} {spare : Nat → Bool} {held : Bool} {v : Value} {fuel : Nat} {y : DataW H × List MemPlace}
    (hf : DataW.trod enc Try.prog W base spare held fuel 44 [v] = some y) : ∃ (l : List Int) (a : Option Addr) (cap : Nat), v = .slice a l.length cap ∧ IntsAt W a l ∧ (l.length : Int) ≤ 9223372036854775807 ∧ l.length ≤ cap ∧ (a = none → cap = 0) := by
  rcases open_ints Try.underlying44 Try.underlying2 (by kernel_rfl) hf with ⟨e2, _⟩ | ⟨x, l, c, zs, e2, _, hl, hm, hz, _, hcell, _⟩
  · obtain rfl : v = .slice none 0 0 := by simpa using e2
    exact ⟨[], none, 0, rfl, IntsAt.nil _ _, by simp, by simp, fun _ => rfl⟩
  · obtain rfl : v = .slice (some x) l c := by simpa using e2
    rw [maxLen] at hm
    have hlz : l ≤ zs.length := by rw [hz]; split <;> omega
    have htl : (zs.take l).length = l := by rw [List.length_take]; omega
    refine ⟨zs.take l, some x, c, by rw [htl], ?_, by rw [htl]; omega, by rw [htl]; exact hl, fun h => by cases h⟩
    intro k hk
    rw [htl] at hk
    obtain ⟨b, off, spot⟩ := x
    have hspot : spot = none := by simpa [Addr.add] using World.cell?_spot (hcell 0 (by omega))
    subst hspot
    have hc := hcell k (by omega)
    have hc0 : W.cell? ⟨b, off + k, none⟩ = some (.int .i64 (zs.getD k 0)) := by
      by_cases hk0 : k = 0
      · subst hk0; simpa [Addr.add] using hc
      · simpa [Addr.add, hk0] using hc
    refine ⟨b, off, rfl, World.block_lt_of_cell? _ _ hc0, ?_⟩
    rw [hc0, List.getElem?_take_of_lt hk]
    simp [List.getD]
end Go.Proofs.Ytjcjhmimgpgfoaa

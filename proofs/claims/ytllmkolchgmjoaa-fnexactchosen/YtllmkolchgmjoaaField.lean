/-
  A field of a struct that came in. By the verifier.
-/
import Derived.Test.YtllmkolchgmjoaaRows
import Derived.WalkKit
import Derived.ProofKit
import Derived.OpenShut
import Derived.ShutString
import Derived.ChangeOld
import Derived.Below
import Derived.Deep.Slices
namespace Go.Proofs.Ytllmkolchgmjoaa
open Go.ChangeShapes Go.WideShapes Go.ChangeAt Go.RowKit

theorem field_of {H : Type} {enc : TypeId × Value → H} {P : Program} {w : World} {base : Nat} {spare : Nat → Bool} {held : Bool} {t : TypeId} {fs : Array Field} {fuel : Nat} {cs : List Value} {x : DataW H × List MemPlace}
    (ht : P.underlying t = some (.struct fs)) (h : DataW.trod enc P w base spare held fuel t cs = some x) (j : Nat) (f : Field) (hj : fs[j]? = some f) (ho : f.offset = j) (hk : P.cellsOf f.type = 1) (c : Value) (hc : cs[j]? = some c) :
    ∃ n y, DataW.trod enc P w base spare held n f.type [c] = some y := by
  obtain ⟨xs, n, _, rfl, hl, hlen, hf⟩ := DataW.trod_struct ht h
  have h1 := hf j f hj
  have hlt : j < fs.size := by
    apply Classical.byContradiction
    intro hn
    rw [Array.getElem?_eq_none (by omega)] at hj
    cases hj
  have hx : xs[j]? = some xs[j] := List.getElem?_eq_getElem (by omega)
  have hcl : j < cs.length := (List.getElem?_eq_some_iff.1 hc).1
  have hd : (cs.drop f.offset).take (P.cellsOf f.type) = [c] := by
    rw [ho, hk, List.drop_eq_getElem_cons hcl]
    simp [(List.getElem?_eq_some_iff.1 hc).2]
  rw [hd, hx] at h1
  exact ⟨n, _, h1⟩

theorem int_field {H : Type} {enc : TypeId × Value → H} {P : Program} {w : World} {base : Nat} {spare : Nat → Bool} {held : Bool} {t : TypeId} {fs : Array Field} {fuel : Nat} {cs : List Value} {x : DataW H × List MemPlace}
    (ht : P.underlying t = some (.struct fs)) (h : DataW.trod enc P w base spare held fuel t cs = some x) (j : Nat) (f : Field) (hj : fs[j]? = some f) (ho : f.offset = j) (hk : P.cellsOf f.type = 1) (k : IntKind) (hu : P.underlying f.type = some (.int k)) (c : Value) (hc : cs[j]? = some c) :
    ∃ n : Int, c = .int k n := by
  obtain ⟨m, y, hy⟩ := field_of ht h j f hj ho hk c hc
  obtain ⟨n, e, _⟩ := DataW.trod_int hu hy
  exact ⟨n, by simpa using e⟩
end Go.Proofs.Ytllmkolchgmjoaa

/-
  A frame that came in, opened: its numbers, its tags' cells, its body. By the verifier.
-/
import Derived.Test.YtcafobokdfglfaaFrPlain
import Derived.Test.YtcafobokdfglfaaRows
import Derived.WalkKit
import Derived.ProofKit
import Derived.OpenShut
import Derived.ShutString
import Derived.ChangeOld
import Derived.Below
namespace Go.Proofs.Ytcafobokdfglfaa
open Go.ChangeShapes Go.WideShapes Go.ChangeAt Go.RowKit

theorem field_of {H : Type} {enc : TypeId × Value → H} {P : Program} {w : World} {base : Nat} {spare : Nat → Bool} {held : Bool} {t : TypeId} {fs : Array Field} {fuel : Nat} {cs : List Value} {x : DataW H × List MemPlace}
    (ht : P.underlying t = some (.struct fs)) (h : DataW.trod enc P w base spare held fuel t cs = some x) (j : Nat) (f : Field) (hj : fs[j]? = some f) (ho : f.offset = j) (hk : P.cellsOf f.type = 1) (c : Value) (hc : cs[j]? = some c) :
    ∃ n y, DataW.trod enc P w base spare held n f.type [c] = some y := by
  obtain ⟨xs, n, _, rfl, hl, hlen, hf⟩ := DataW.trod_struct ht h
  have h1 := hf j f hj
  have hlt : j < fs.size := by
    apply Classical.byContradiction
    intro hn
    rw [Array.getElem?_eq_none (by omega)] at hj
    cases hj
  have hx : xs[j]? = some xs[j] := List.getElem?_eq_getElem (by omega)
  have hcl : j < cs.length := (List.getElem?_eq_some_iff.1 hc).1
  have hd : (cs.drop f.offset).take (P.cellsOf f.type) = [c] := by
    rw [ho, hk, List.drop_eq_getElem_cons hcl]
    simp [(List.getElem?_eq_some_iff.1 hc).2]
  rw [hd, hx] at h1
  exact ⟨n, _, h1⟩

theorem int_field {H : Type} {enc : TypeId × Value → H} {P : Program} {w : World} {base : Nat} {spare : Nat → Bool} {held : Bool} {t : TypeId} {fs : Array Field} {fuel : Nat} {cs : List Value} {x : DataW H × List MemPlace}
    (ht : P.underlying t = some (.struct fs)) (h : DataW.trod enc P w base spare held fuel t cs = some x) (j : Nat) (f : Field) (hj : fs[j]? = some f) (ho : f.offset = j) (hk : P.cellsOf f.type = 1) (k : IntKind) (hu : P.underlying f.type = some (.int k)) (c : Value) (hc : cs[j]? = some c) :
    ∃ n : Int, c = .int k n := by
  obtain ⟨m, y, hy⟩ := field_of ht h j f hj ho hk c hc
  obtain ⟨n, e, _⟩ := DataW.trod_int hu hy
  exact ⟨n, by simpa using e⟩

theorem array11 {cs : Array Value} (h : cs.size = 11) : ∃ c0 c1 c2 c3 c4 c5 c6 c7 c8 c9 c10, cs = #[c0, c1, c2, c3, c4, c5, c6, c7, c8, c9, c10] := by
  obtain ⟨l⟩ := cs
  match l, h with
  | [c0, c1, c2, c3, c4, c5, c6, c7, c8, c9, c10], _ => exact ⟨c0, c1, c2, c3, c4, c5, c6, c7, c8, c9, c10, rfl⟩

set_option maxRecDepth 100000 in
theorem frame_open {H : Type} {enc : TypeId × Value → H} {W : World} {r : Reach} {b0 base : Nat} {spare : Nat → Bool} {held : Bool} {v : Value} {d : DataW H} {p : List MemPlace} (hv : Value.okWide Try.prog W r b0 33 v)
    (h : DataW.Trod enc Try.prog W base spare held 33 v d p) :
    ∃ (f : Fr) (a : Option Addr) (cap : Nat), v = f.val a cap ∧ IntsAt W a f.tags ∧ (f.tags.length : Int) ≤ 9223372036854775807 ∧ (f.body.size : Int) ≤ 9223372036854775807 := by
  obtain ⟨cs, rfl, hsz⟩ := okWide_struct Try.underlying33 hv
  obtain ⟨c0, c1, c2, c3, c4, c5, c6, c7, c8, c9, c10, rfl⟩ := array11 (hsz.trans (by kernel_rfl))
  obtain ⟨fuel, hf⟩ := h
  have hf' : DataW.trod enc Try.prog W base spare held fuel 33 [c0, c1, c2, c3, c4, c5, c6, c7, c8, c9, c10] = some (d, p) := by simpa [Value.cells] using hf
  obtain ⟨n0, rfl⟩ := int_field Try.underlying33 hf' 0 _ rfl rfl (by kernel_rfl) .i64 Try.underlying2 c0 rfl
  obtain ⟨n1, rfl⟩ := int_field Try.underlying33 hf' 1 _ rfl rfl (by kernel_rfl) .i64 Try.underlying2 c1 rfl
  obtain ⟨n3, rfl⟩ := int_field Try.underlying33 hf' 3 _ rfl rfl (by kernel_rfl) .i64 Try.underlying2 c3 rfl
  obtain ⟨n4, rfl⟩ := int_field Try.underlying33 hf' 4 _ rfl rfl (by kernel_rfl) .i64 Try.underlying2 c4 rfl
  obtain ⟨n5, rfl⟩ := int_field Try.underlying33 hf' 5 _ rfl rfl (by kernel_rfl) .i64 Try.underlying2 c5 rfl
  obtain ⟨n6, rfl⟩ := int_field Try.underlying33 hf' 6 _ rfl rfl (by kernel_rfl) .i64 Try.underlying2 c6 rfl
  obtain ⟨n7, rfl⟩ := int_field Try.underlying33 hf' 7 _ rfl rfl (by kernel_rfl) .i64 Try.underlying2 c7 rfl
  obtain ⟨n8, rfl⟩ := int_field Try.underlying33 hf' 8 _ rfl rfl (by kernel_rfl) .i64 Try.underlying2 c8 rfl
  obtain ⟨n9, rfl⟩ := int_field Try.underlying33 hf' 9 _ rfl rfl (by kernel_rfl) .i64 Try.underlying2 c9 rfl
  obtain ⟨m10, y10, h10⟩ := field_of Try.underlying33 hf' 10 _ rfl rfl (by kernel_rfl) c10 rfl
  obtain ⟨body, e10, _, hbody⟩ := DataW.trod_string Try.underlying9 h10
  obtain rfl : c10 = .string body := by simpa using e10
  obtain ⟨m2, y2, h2⟩ := field_of Try.underlying33 hf' 2 _ rfl rfl (by kernel_rfl) c2 rfl
  rw [maxLen] at hbody
  rcases open_ints Try.underlying31 Try.underlying2 (by kernel_rfl) h2 with ⟨e2, _⟩ | ⟨x, l, c, zs, e2, _, hl, hm, hz, _, hcell, _⟩
  · obtain rfl : c2 = .slice none 0 0 := by simpa using e2
    exact ⟨⟨n0, n1, [], n3, n4, n5, n6, n7, n8, n9, body⟩, none, 0, rfl, IntsAt.nil _ _, by simp, by simp only []; omega⟩
  · obtain rfl : c2 = .slice (some x) l c := by simpa using e2
    rw [maxLen] at hm
    have hlz : l ≤ zs.length := by rw [hz]; split <;> omega
    have htl : (zs.take l).length = l := by rw [List.length_take]; omega
    refine ⟨⟨n0, n1, zs.take l, n3, n4, n5, n6, n7, n8, n9, body⟩, some x, c, by simp only [Fr.val, htl], ?_, by simp only [htl]; omega, by simp only []; omega⟩
    intro k hk
    simp only [htl] at hk
    obtain ⟨b, off, spot⟩ := x
    have hspot : spot = none := by simpa [Addr.add] using World.cell?_spot (hcell 0 (by omega))
    subst hspot
    have hc := hcell k (by omega)
    have hc0 : W.cell? ⟨b, off + k, none⟩ = some (.int .i64 (zs.getD k 0)) := by
      by_cases hk0 : k = 0
      · subst hk0; simpa [Addr.add] using hc
      · simpa [Addr.add, hk0] using hc
    refine ⟨b, off, rfl, World.block_lt_of_cell? _ _ hc0, ?_⟩
    rw [hc0, List.getElem?_take_of_lt hk]
    rfl
end Go.Proofs.Ytcafobokdfglfaa

import Derived.Test.YtfkkmjejmflgjaaRows
import Derived.WalkKit
import Derived.ProofKit
import Derived.OpenShut
import Derived.ShutString
import Derived.ChangeOld
import Derived.Below
import Derived.Deep.Slices
import Derived.Test.YtfkkmjejmflgjaaQ0SrPlain
import Derived.Test.YtfkkmjejmflgjaaQ1NdPlain
/-
  A field of a struct that came in. By the verifier.
-/
namespace Go.Proofs.Ytfkkmjejmflgjaa
open Go.ChangeShapes Go.WideShapes Go.ChangeAt Go.RowKit

theorem field_of {H : Type} {enc : TypeId × Value → H} {P : Program} {w : World} {base : Nat} {spare : Nat → Bool} {held : Bool} {t : TypeId} {fs : Array Field} {fuel : Nat} {cs : List Value} {x : DataW H × List MemPlace}
    (ht : P.underlying t = some (.struct fs)) (h : DataW.trod enc P w base spare held fuel t cs = some x) (j : Nat) (f : Field) (hj : fs[j]? = some f) (ho : f.offset = j) (hk : P.cellsOf f.type = 1) (c : Value) (hc : cs[j]? = some c) :
    ∃ n y, DataW.trod enc P w base spare held n f.type [c] = some y := by
  obtain ⟨xs, n, _, rfl, hl, hlen, hf⟩ := DataW.trod_struct ht h
  have h1 := hf j f hj
  have hlt : j < fs.size := by
    apply Classical.byContradiction
    intro hn
    rw [Array.getElem?_eq_none (by omega)] at hj
    cases hj
  have hx : xs[j]? = some xs[j] := List.getElem?_eq_getElem (by omega)
  have hcl : j < cs.length := (List.getElem?_eq_some_iff.1 hc).1
  have hd : (cs.drop f.offset).take (P.cellsOf f.type) = [c] := by
    rw [ho, hk, List.drop_eq_getElem_cons hcl]
    simp [(List.getElem?_eq_some_iff.1 hc).2]
  rw [hd, hx] at h1
  exact ⟨n, _, h1⟩

theorem int_field {H : Type} {enc : TypeId × Value → H} {P : Program} {w : World} {base : Nat} {spare : Nat → Bool} {held : Bool} {t : TypeId} {fs : Array Field} {fuel : Nat} {cs : List Value} {x : DataW H × List MemPlace}
    (ht : P.underlying t = some (.struct fs)) (h : DataW.trod enc P w base spare held fuel t cs = some x) (j : Nat) (f : Field) (hj : fs[j]? = some f) (ho : f.offset = j) (hk : P.cellsOf f.type = 1) (k : IntKind) (hu : P.underlying f.type = some (.int k)) (c : Value) (hc : cs[j]? = some c) :
    ∃ n : Int, c = .int k n := by
  obtain ⟨m, y, hy⟩ := field_of ht h j f hj ho hk c hc
  obtain ⟨n, e, _⟩ := DataW.trod_int hu hy
  exact ⟨n, by simpa using e⟩
end Go.Proofs.Ytfkkmjejmflgjaa

/-
  A list of numbers that came in, opened. By the verifier.
-/
namespace Go.Proofs.Ytfkkmjejmflgjaa
open Go.ChangeShapes Go.WideShapes Go.ChangeAt Go.RowKit

set_option maxRecDepth 100000 in
theorem ints_trod {H : Type} {enc : TypeId × Value → H} {W : World} {base : Nat} {spare : Nat → Bool} {held : Bool} {v : Value} {fuel : Nat} {y : DataW H × List MemPlace}
    (hf : DataW.trod enc Try.prog W base spare held fuel 25 [v] = some y) : ∃ (l : List Int) (a : Option Addr) (cap : Nat), v = .slice a l.length cap ∧ IntsAt W a l ∧ (l.length : Int) ≤ 9223372036854775807 ∧ l.length ≤ cap ∧ (a = none → cap = 0) := by
  rcases open_ints Try.underlying25 Try.underlying2 (by kernel_rfl) hf with ⟨e2, _⟩ | ⟨x, l, c, zs, e2, _, hl, hm, hz, _, hcell, _⟩
  · obtain rfl : v = .slice none 0 0 := by simpa using e2
    exact ⟨[], none, 0, rfl, IntsAt.nil _ _, by simp, by simp, fun _ => rfl⟩
  · obtain rfl : v = .slice (some x) l c := by simpa using e2
    rw [maxLen] at hm
    have hlz : l ≤ zs.length := by rw [hz]; split <;> omega
    have htl : (zs.take l).length = l := by rw [List.length_take]; omega
    refine ⟨zs.take l, some x, c, by rw [htl], ?_, by rw [htl]; omega, by rw [htl]; exact hl, fun h => by cases h⟩
    intro k hk
    rw [htl] at hk
    obtain ⟨b, off, spot⟩ := x
    have hspot : spot = none := by simpa [Addr.add] using World.cell?_spot (hcell 0 (by omega))
    subst hspot
    have hc := hcell k (by omega)
    have hc0 : W.cell? ⟨b, off + k, none⟩ = some (.int .i64 (zs.getD k 0)) := by
      by_cases hk0 : k = 0
      · subst hk0; simpa [Addr.add] using hc
      · simpa [Addr.add, hk0] using hc
    refine ⟨b, off, rfl, World.block_lt_of_cell? _ _ hc0, ?_⟩
    rw [hc0, List.getElem?_take_of_lt hk]
    simp [List.getD]
end Go.Proofs.Ytfkkmjejmflgjaa

/-
  A list of numbers that came in, opened. By the verifier.
-/
namespace Go.Proofs.Ytfkkmjejmflgjaa
open Go.ChangeShapes Go.WideShapes Go.ChangeAt Go.RowKit

set_option maxRecDepth 100000 in
theorem ints_openI {H : Type} {enc : TypeId × Value → H} {W : World} {r : Reach} {b0 base : Nat} {spare : Nat → Bool} {held : Bool} {v : Value} {d : DataW H} {p : List MemPlace} (hv : Value.okWide Try.prog W r b0 25 v)
    (h : DataW.Trod enc Try.prog W base spare held 25 v d p) : ∃ (l : List Int) (a : Option Addr) (cap : Nat), v = .slice a l.length cap ∧ IntsAt W a l ∧ (l.length : Int) ≤ 9223372036854775807 := by
  obtain ⟨a0, len0, cap0, rfl⟩ := okWide_slice Try.underlying25 hv
  obtain ⟨fuel, hf⟩ := h
  have hf' : DataW.trod enc Try.prog W base spare held fuel 25 [.slice a0 len0 cap0] = some (d, p) := by simpa [Value.cells] using hf
  obtain ⟨l, a, cap, e, h1, h2, _⟩ := ints_trod hf'
  exact ⟨l, a, cap, e, h1, h2⟩
end Go.Proofs.Ytfkkmjejmflgjaa

/-
  A record (Line) and a list of them that came in, opened: their numbers. By the verifier, by program.
-/
namespace Go.Proofs.Ytfkkmjejmflgjaa
open Go.ChangeShapes Go.WideShapes Go.ChangeAt Go.RowKit

theorem lnArray {cs : Array Value} (h : cs.size = 3) : ∃ c0 c1 c2, cs = #[c0, c1, c2] := by
  obtain ⟨l⟩ := cs
  match l, h with
  | [c0, c1, c2], _ => exact ⟨c0, c1, c2, rfl⟩
set_option maxRecDepth 100000 in
theorem ln_open {H : Type} {enc : TypeId × Value → H} {W : World} {r : Reach} {b0 base : Nat} {spare : Nat → Bool} {held : Bool} {v : Value} {d : DataW H} {p : List MemPlace} (hv : Value.okWide Try.prog W r b0 23 v)
    (h : DataW.Trod enc Try.prog W base spare held 23 v d p) : ∃ x : Ln, v = x.val := by
  obtain ⟨cs, rfl, hsz⟩ := okWide_struct Try.underlying23 hv
  obtain ⟨c0, c1, c2, rfl⟩ := lnArray (hsz.trans (by kernel_rfl))
  obtain ⟨fuel, hf⟩ := h
  have hf' : DataW.trod enc Try.prog W base spare held fuel 23 [c0, c1, c2] = some (d, p) := by simpa [Value.cells] using hf
  obtain ⟨n0, rfl⟩ := int_field Try.underlying23 hf' 0 _ rfl rfl (by kernel_rfl) .i64 Try.underlying2 c0 rfl
  obtain ⟨n1, rfl⟩ := int_field Try.underlying23 hf' 1 _ rfl rfl (by kernel_rfl) .i64 Try.underlying2 c1 rfl
  obtain ⟨n2, rfl⟩ := int_field Try.underlying23 hf' 2 _ rfl rfl (by kernel_rfl) .i64 Try.underlying2 c2 rfl
  exact ⟨⟨n0, n1, n2⟩, rfl⟩
end Go.Proofs.Ytfkkmjejmflgjaa

/-
  A record (Node) and a list of them that came in, opened: their numbers. By the verifier, by program.
-/
namespace Go.Proofs.Ytfkkmjejmflgjaa
open Go.ChangeShapes Go.WideShapes Go.ChangeAt Go.RowKit

theorem part_of {H : Type} {enc : TypeId × Value → H} {P : Program} {w : World} {base : Nat} {spare : Nat → Bool} {held : Bool} {t : TypeId} {fs : Array Field} {fuel : Nat} {cs : List Value} {x : DataW H × List MemPlace}
    (ht : P.underlying t = some (.struct fs)) (h : DataW.trod enc P w base spare held fuel t cs = some x) (j : Nat) (f : Field) (hj : fs[j]? = some f) (o k : Nat) (T : TypeId) (ho : f.offset = o) (hT : f.type = T) (hk : P.cellsOf T = k) :
    ∃ n y, DataW.trod enc P w base spare held n T ((cs.drop o).take k) = some y := by
  subst ho; subst hT; subst hk
  obtain ⟨xs, n, _, rfl, hl, hlen, hf⟩ := DataW.trod_struct ht h
  have h1 := hf j f hj
  have hlt : j < fs.size := by
    apply Classical.byContradiction
    intro hn
    rw [Array.getElem?_eq_none (by omega)] at hj
    cases hj
  have hx : xs[j]? = some xs[j] := List.getElem?_eq_getElem (by omega)
  rw [hx] at h1
  exact ⟨n, _, h1⟩
theorem ndAddr (b off i j : Nat) (x : Addr) (hx : x = ⟨b, off, none⟩) : (x.add (i * 5)).add j = ⟨b, off + i * 5 + j, none⟩ := by
  subst hx
  rw [Go.Deep.add_add]
  by_cases h : i * 5 + j = 0
  · obtain rfl : i = 0 := by omega
    obtain rfl : j = 0 := by omega
    simp [Addr.add]
  · simp only [Addr.add, h, if_false]
    simp
set_option maxRecDepth 100000 in
theorem nds_trod {H : Type} {enc : TypeId × Value → H} {W : World} {base : Nat} {spare : Nat → Bool} {held : Bool} {v : Value} {fuel : Nat} {y : DataW H × List MemPlace}
    (hf' : DataW.trod enc Try.prog W base spare held fuel 24 [v] = some y) : ∃ (l : List Nd) (a : Option Addr) (cap : Nat), v = .slice a l.length cap ∧ NdsAt W a l ∧ (l.length : Int) ≤ 9223372036854775807 ∧ l.length ≤ cap ∧ (a = none → cap = 0) := by
  rcases Go.Deep.open_slice Try.underlying24 hf' with ⟨e, _⟩ | ⟨x, len, cap, m, n, D, Pl, e, _, hl, hm, hmm, _, hx⟩
  · obtain rfl : v = .slice none 0 0 := by simpa using e
    exact ⟨[], none, 0, rfl, NdsAt.nil _ _, by simp, by simp, fun _ => rfl⟩
  · obtain rfl : v = .slice (some x) len cap := by simpa using e
    have hc3 : Try.prog.cellsOf 64 = 5 := by kernel_rfl
    have hlm : len ≤ m := by rw [hmm]; split <;> omega
    rw [maxLen] at hm
    have hspot : 0 < len → ∃ b off, x = ⟨b, off, none⟩ := by
      intro h0
      obtain ⟨cs', h1, h2⟩ := hx 0 (by omega)
      rw [hc3] at h1
      obtain ⟨_, hlen, hcell⟩ := World.cells?_some h1
      match cs', hlen with
      | [v0, v1, v2, v3, v4], _ =>
        have e0 := hcell 0 (by omega)
        obtain ⟨b, off, spot⟩ := x
        have hs : spot = none := by simpa [Addr.add] using World.cell?_spot (w := W) (a := (⟨b, off, spot⟩ : Addr)) (v := v0) (by simpa [Addr.add] using e0)
        exact ⟨b, off, by rw [hs]⟩
    have each : ∀ i, i < len → ∃ q : Nd, ∃ b off, x = ⟨b, off, none⟩ ∧ W.cell? ⟨b, off + i * 5, none⟩ = some (.int .i64 q.up) ∧ W.cell? ⟨b, off + i * 5 + 1, none⟩ = some (.int .i64 q.pz.rate) ∧ W.cell? ⟨b, off + i * 5 + 2, none⟩ = some (.int .i64 q.pz.burst) ∧ W.cell? ⟨b, off + i * 5 + 3, none⟩ = some (.int .i64 q.pz.level) ∧ W.cell? ⟨b, off + i * 5 + 4, none⟩ = some (.int .i64 q.pz.tm) := by
      intro i hi
      obtain ⟨cs', h1, h2⟩ := hx i (by omega)
      rw [hc3] at h1
      obtain ⟨_, hlen, hcell⟩ := World.cells?_some h1
      match cs', hlen with
      | [v0, v1, v2, v3, v4], _ =>
        obtain ⟨n0, rfl⟩ := int_field Try.underlying64 h2 0 _ rfl rfl (by kernel_rfl) .i64 Try.underlying2 v0 rfl
        obtain ⟨m1, y1, hp⟩ := part_of Try.underlying64 h2 1 _ rfl 1 4 62 rfl rfl (by kernel_rfl)
        simp only [List.drop_succ_cons, List.drop_zero, List.take_succ_cons, List.take_zero] at hp
        obtain ⟨n1, rfl⟩ := int_field Try.underlying62 hp 0 _ rfl rfl (by kernel_rfl) .i64 Try.underlying2 v1 rfl
        obtain ⟨n2, rfl⟩ := int_field Try.underlying62 hp 1 _ rfl rfl (by kernel_rfl) .i64 Try.underlying2 v2 rfl
        obtain ⟨n3, rfl⟩ := int_field Try.underlying62 hp 2 _ rfl rfl (by kernel_rfl) .i64 Try.underlying2 v3 rfl
        obtain ⟨n4, rfl⟩ := int_field Try.underlying62 hp 3 _ rfl rfl (by kernel_rfl) .i64 Try.underlying2 v4 rfl
        have e0 := hcell 0 (by omega)
        have e1 := hcell 1 (by omega)
        have e2 := hcell 2 (by omega)
        have e3 := hcell 3 (by omega)
        have e4 := hcell 4 (by omega)
        obtain ⟨b, off, rfl⟩ := hspot (by omega)
        rw [ndAddr b off i _ _ rfl] at e0 e1 e2 e3 e4
        exact ⟨⟨n0, n1, n2, n3, n4⟩, b, off, rfl, by simpa using e0, by simpa using e1, by simpa using e2, by simpa using e3, by simpa using e4⟩
    haveI : Inhabited Nd := ⟨⟨0, 0, 0, 0, 0⟩⟩
    obtain ⟨f, hff⟩ := Go.Deep.choose_lt each
    have hlen : ((List.range len).map f).length = len := by simp
    refine ⟨(List.range len).map f, some x, cap, by rw [hlen], ?_, by rw [hlen]; omega, by rw [hlen]; exact hl, fun h => by cases h⟩
    intro k hk
    rw [hlen] at hk
    obtain ⟨b, off, e, c0, c1, c2, c3, c4⟩ := hff k hk
    have hr : ndAt ((List.range len).map f) k = f k := by simp [ndAt, hk]
    rw [hr]
    exact ⟨b, off, by rw [e], World.block_lt_of_cell? _ _ c0, c0, c1, c2, c3, c4⟩
set_option maxRecDepth 100000 in
theorem nds_open {H : Type} {enc : TypeId × Value → H} {W : World} {r : Reach} {b0 base : Nat} {spare : Nat → Bool} {held : Bool} {v : Value} {d : DataW H} {p : List MemPlace} (hv : Value.okWide Try.prog W r b0 24 v)
    (h : DataW.Trod enc Try.prog W base spare held 24 v d p) : ∃ (l : List Nd) (a : Option Addr) (cap : Nat), v = .slice a l.length cap ∧ NdsAt W a l ∧ (l.length : Int) ≤ 9223372036854775807 := by
  obtain ⟨a0, len0, cap0, rfl⟩ := okWide_slice Try.underlying24 hv
  obtain ⟨fuel, hf⟩ := h
  have hf' : DataW.trod enc Try.prog W base spare held fuel 24 [.slice a0 len0 cap0] = some (d, p) := by simpa [Value.cells] using hf
  obtain ⟨l, a, cap, e, h1, h2, _⟩ := nds_trod hf'
  exact ⟨l, a, cap, e, h1, h2⟩
end Go.Proofs.Ytfkkmjejmflgjaa

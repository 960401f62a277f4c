import Derived.Test.YtllmkolchgmjoaaRows
import Derived.WalkKit
import Derived.ProofKit
import Derived.OpenShut
import Derived.ShutString
import Derived.ChangeOld
import Derived.Below
import Derived.Deep.Slices
import Derived.Test.YtllmkolchgmjoaaFrPlain
import Derived.Test.YtllmkolchgmjoaaFwPlain
import Derived.Test.YtllmkolchgmjoaaFsStr
/-
  A field of a struct that came in. By the verifier.
-/
namespace Go.Proofs.Ytllmkolchgmjoaa
open Go.ChangeShapes Go.WideShapes Go.ChangeAt Go.RowKit

theorem field_of {H : Type} {enc : TypeId × Value → H} {P : Program} {w : World} {base : Nat} {spare : Nat → Bool} {held : Bool} {t : TypeId} {fs : Array Field} {fuel : Nat} {cs : List Value} {x : DataW H × List MemPlace}
    (ht : P.underlying t = some (.struct fs)) (h : DataW.trod enc P w base spare held fuel t cs = some x) (j : Nat) (f : Field) (hj : fs[j]? = some f) (ho : f.offset = j) (hk : P.cellsOf f.type = 1) (c : Value) (hc : cs[j]? = some c) :
    ∃ n y, DataW.trod enc P w base spare held n f.type [c] = some y := by
  obtain ⟨xs, n, _, rfl, hl, hlen, hf⟩ := DataW.trod_struct ht h
  have h1 := hf j f hj
  have hlt : j < fs.size := by
    apply Classical.byContradiction
    intro hn
    rw [Array.getElem?_eq_none (by omega)] at hj
    cases hj
  have hx : xs[j]? = some xs[j] := List.getElem?_eq_getElem (by omega)
  have hcl : j < cs.length := (List.getElem?_eq_some_iff.1 hc).1
  have hd : (cs.drop f.offset).take (P.cellsOf f.type) = [c] := by
    rw [ho, hk, List.drop_eq_getElem_cons hcl]
    simp [(List.getElem?_eq_some_iff.1 hc).2]
  rw [hd, hx] at h1
  exact ⟨n, _, h1⟩

theorem int_field {H : Type} {enc : TypeId × Value → H} {P : Program} {w : World} {base : Nat} {spare : Nat → Bool} {held : Bool} {t : TypeId} {fs : Array Field} {fuel : Nat} {cs : List Value} {x : DataW H × List MemPlace}
    (ht : P.underlying t = some (.struct fs)) (h : DataW.trod enc P w base spare held fuel t cs = some x) (j : Nat) (f : Field) (hj : fs[j]? = some f) (ho : f.offset = j) (hk : P.cellsOf f.type = 1) (k : IntKind) (hu : P.underlying f.type = some (.int k)) (c : Value) (hc : cs[j]? = some c) :
    ∃ n : Int, c = .int k n := by
  obtain ⟨m, y, hy⟩ := field_of ht h j f hj ho hk c hc
  obtain ⟨n, e, _⟩ := DataW.trod_int hu hy
  exact ⟨n, by simpa using e⟩
end Go.Proofs.Ytllmkolchgmjoaa

/-
  A list of numbers that came in, opened. By the verifier.
-/
namespace Go.Proofs.Ytllmkolchgmjoaa
open Go.ChangeShapes Go.WideShapes Go.ChangeAt Go.RowKit

set_option maxRecDepth 100000 in
theorem ints_trod {H : Type} {enc : TypeId × Value → H} {W : World} {base : Nat} {spare : Nat → Bool} {held : Bool} {v : Value} {fuel : Nat} {y : DataW H × List MemPlace}
    (hf : DataW.trod enc Try.prog W base spare held fuel 34 [v] = some y) : ∃ (l : List Int) (a : Option Addr) (cap : Nat), v = .slice a l.length cap ∧ IntsAt W a l ∧ (l.length : Int) ≤ 9223372036854775807 ∧ l.length ≤ cap ∧ (a = none → cap = 0) := by
  rcases open_ints Try.underlying34 Try.underlying2 (by kernel_rfl) hf with ⟨e2, _⟩ | ⟨x, l, c, zs, e2, _, hl, hm, hz, _, hcell, _⟩
  · obtain rfl : v = .slice none 0 0 := by simpa using e2
    exact ⟨[], none, 0, rfl, IntsAt.nil _ _, by simp, by simp, fun _ => rfl⟩
  · obtain rfl : v = .slice (some x) l c := by simpa using e2
    rw [maxLen] at hm
    have hlz : l ≤ zs.length := by rw [hz]; split <;> omega
    have htl : (zs.take l).length = l := by rw [List.length_take]; omega
    refine ⟨zs.take l, some x, c, by rw [htl], ?_, by rw [htl]; omega, by rw [htl]; exact hl, fun h => by cases h⟩
    intro k hk
    rw [htl] at hk
    obtain ⟨b, off, spot⟩ := x
    have hspot : spot = none := by simpa [Addr.add] using World.cell?_spot (hcell 0 (by omega))
    subst hspot
    have hc := hcell k (by omega)
    have hc0 : W.cell? ⟨b, off + k, none⟩ = some (.int .i64 (zs.getD k 0)) := by
      by_cases hk0 : k = 0
      · subst hk0; simpa [Addr.add] using hc
      · simpa [Addr.add, hk0] using hc
    refine ⟨b, off, rfl, World.block_lt_of_cell? _ _ hc0, ?_⟩
    rw [hc0, List.getElem?_take_of_lt hk]
    simp [List.getD]
end Go.Proofs.Ytllmkolchgmjoaa

/-
  A list of records with a list (Flow) that came in, opened. By the verifier, by program.
-/
namespace Go.Proofs.Ytllmkolchgmjoaa
open Go.ChangeShapes Go.WideShapes Go.ChangeAt Go.RowKit

theorem fwAddr (b off i j : Nat) (x : Addr) (hx : x = ⟨b, off, none⟩) : (x.add (i * 3)).add j = ⟨b, off + i * 3 + j, none⟩ := by
  subst hx
  rw [Go.Deep.add_add]
  by_cases h : i * 3 + j = 0
  · obtain rfl : i = 0 := by omega
    obtain rfl : j = 0 := by omega
    simp [Addr.add]
  · simp only [Addr.add, h, if_false]
    simp
set_option maxRecDepth 100000 in
theorem fws_trod {H : Type} {enc : TypeId × Value → H} {W : World} {base : Nat} {spare : Nat → Bool} {held : Bool} {v : Value} {fuel : Nat} {y : DataW H × List MemPlace}
    (hf' : DataW.trod enc Try.prog W base spare held fuel 44 [v] = some y) : ∃ (l : List Fw) (a : Option Addr) (cap : Nat), v = .slice a l.length cap ∧ FwsAt W a l ∧ (l.length : Int) ≤ 9223372036854775807 ∧ ∀ k, k < l.length → ((fwAt l k).sizes.length : Int) ≤ 9223372036854775807 := by
  rcases Go.Deep.open_slice Try.underlying44 hf' with ⟨e, _⟩ | ⟨x, len, cap, m, n, D, Pl, e, _, hl, hm, hmm, _, hx⟩
  · obtain rfl : v = .slice none 0 0 := by simpa using e
    exact ⟨[], none, 0, rfl, FwsAt.nil _ _, by simp, fun k hk => by simp at hk⟩
  · obtain rfl : v = .slice (some x) len cap := by simpa using e
    have hc3 : Try.prog.cellsOf 91 = 3 := by kernel_rfl
    have hlm : len ≤ m := by rw [hmm]; split <;> omega
    rw [maxLen] at hm
    have hspot : 0 < len → ∃ b off, x = ⟨b, off, none⟩ := by
      intro h0
      obtain ⟨cs', h1, h2⟩ := hx 0 (by omega)
      rw [hc3] at h1
      obtain ⟨_, hlen, hcell⟩ := World.cells?_some h1
      match cs', hlen with
      | [v0, v1, v2], _ =>
        have e0 := hcell 0 (by omega)
        obtain ⟨b, off, spot⟩ := x
        have hs : spot = none := by simpa [Addr.add] using World.cell?_spot (w := W) (a := (⟨b, off, spot⟩ : Addr)) (v := v0) (by simpa [Addr.add] using e0)
        exact ⟨b, off, by rw [hs]⟩
    have each : ∀ i, i < len → ∃ q : Fw, ∃ b off ak ck, x = ⟨b, off, none⟩ ∧ (W.cell? ⟨b, off + i * 3, none⟩ = some (.int .i64 q.weight) ∧ W.cell? ⟨b, off + i * 3 + 1, none⟩ = some (.int .i64 q.finish) ∧ W.cell? ⟨b, off + i * 3 + 2, none⟩ = some (.slice ak q.sizes.length ck)) ∧ IntsAt W ak q.sizes ∧ (q.sizes.length ≤ ck ∧ (ak = none → ck = 0)) ∧ (q.sizes.length : Int) ≤ 9223372036854775807 := by
      intro i hi
      obtain ⟨cs', h1, h2⟩ := hx i (by omega)
      rw [hc3] at h1
      obtain ⟨_, hlen, hcell⟩ := World.cells?_some h1
      match cs', hlen with
      | [v0, v1, v2], _ =>
        obtain ⟨n0, rfl⟩ := int_field Try.underlying91 h2 0 _ rfl rfl (by kernel_rfl) .i64 Try.underlying2 v0 rfl
        obtain ⟨n1, rfl⟩ := int_field Try.underlying91 h2 1 _ rfl rfl (by kernel_rfl) .i64 Try.underlying2 v1 rfl
        obtain ⟨nn, yy, hy⟩ := field_of Try.underlying91 h2 2 _ rfl rfl (by kernel_rfl) v2 rfl
        obtain ⟨zl, ak, ck, rfl, q1, q2, q3, q4⟩ := ints_trod hy
        have e0 := hcell 0 (by omega)
        have e1 := hcell 1 (by omega)
        have e2 := hcell 2 (by omega)
        obtain ⟨b, off, rfl⟩ := hspot (by omega)
        rw [fwAddr b off i _ _ rfl] at e0 e1 e2
        exact ⟨⟨n0, n1, zl⟩, b, off, ak, ck, rfl, ⟨by simpa using e0, by simpa using e1, by simpa using e2⟩, q1, ⟨q3, q4⟩, q2⟩
    haveI : Inhabited Fw := ⟨⟨0, 0, []⟩⟩
    obtain ⟨f, hff⟩ := Go.Deep.choose_lt each
    have hlen : ((List.range len).map f).length = len := by simp
    have hr : ∀ k, k < len → fwAt ((List.range len).map f) k = f k := fun k hk => by simp [fwAt, hk]
    refine ⟨(List.range len).map f, some x, cap, by rw [hlen], fun k hk => ?_, by rw [hlen]; omega, fun k hk => ?_⟩
    · rw [hlen] at hk
      obtain ⟨b, off, ak, ck, e1, e2, e3, e4, e5⟩ := hff k hk
      rw [hr k hk]
      exact ⟨b, off, ak, ck, by rw [e1], World.block_lt_of_cell? _ _ e2.1, e2, e3, e4⟩
    · rw [hlen] at hk
      obtain ⟨b, off, ak, ck, e1, e2, e3, e4, e5⟩ := hff k hk
      rw [hr k hk]
      exact e5
end Go.Proofs.Ytllmkolchgmjoaa

/-
  A record of a number and a list (Fairness) that came in, opened. By the verifier, by program.
-/
namespace Go.Proofs.Ytllmkolchgmjoaa
open Go.ChangeShapes Go.WideShapes Go.ChangeAt Go.RowKit

theorem fsArray {cs : Array Value} (h : cs.size = 2) : ∃ c0 c1, cs = #[c0, c1] := by
  obtain ⟨l⟩ := cs
  match l, h with
  | [c0, c1], _ => exact ⟨c0, c1, rfl⟩
set_option maxRecDepth 100000 in
theorem fs_open {H : Type} {enc : TypeId × Value → H} {W : World} {x : Reach} {b0 base : Nat} {spare : Nat → Bool} {held : Bool} {v : Value} {d : DataW H} {p : List MemPlace} (hv : Value.okWide Try.prog W x b0 46 v)
    (h : DataW.Trod enc Try.prog W base spare held 46 v d p) : ∃ (r : Fs) (a : Option Addr) (c : Nat), v = r.val a c ∧ FwsAt W a r.flows ∧ (r.flows.length : Int) ≤ 9223372036854775807 ∧ ∀ k, k < r.flows.length → ((fwAt r.flows k).sizes.length : Int) ≤ 9223372036854775807 := by
  obtain ⟨cs, rfl, hsz⟩ := okWide_struct Try.underlying46 hv
  obtain ⟨c0, c1, rfl⟩ := fsArray (hsz.trans (by kernel_rfl))
  obtain ⟨fuel, hf⟩ := h
  have hf' : DataW.trod enc Try.prog W base spare held fuel 46 [c0, c1] = some (d, p) := by simpa [Value.cells] using hf
  obtain ⟨n0, rfl⟩ := int_field Try.underlying46 hf' 0 _ rfl rfl (by kernel_rfl) .i64 Try.underlying2 c0 rfl
  obtain ⟨n1, y, hy⟩ := field_of Try.underlying46 hf' 1 _ rfl rfl (by kernel_rfl) c1 rfl
  obtain ⟨ls, a, c, rfl, h1, h2, h3⟩ := fws_trod hy
  exact ⟨⟨n0, ls⟩, a, c, rfl, h1, h2, h3⟩
end Go.Proofs.Ytllmkolchgmjoaa

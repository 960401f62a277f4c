/-
  A list of records with a list (Host) that came in, opened. By the verifier, by program.
-/
import Derived.Test.YtlfklpencobgmaaHsPlain
import Derived.Test.YtlfklpencobgmaaField
import Derived.Test.YtlfklpencobgmaaIntOpen
namespace Go.Proofs.Ytlfklpencobgmaa
open Go.ChangeShapes Go.WideShapes Go.ChangeAt Go.RowKit

theorem hsAddr (b off i j : Nat) (x : Addr) (hx : x = ⟨b, off, none⟩) : (x.add (i * 2)).add j = ⟨b, off + i * 2 + j, none⟩ := by
  subst hx
  rw [Go.Deep.add_add]
  by_cases h : i * 2 + j = 0
  · obtain rfl : i = 0 := by omega
    obtain rfl : j = 0 := by omega
    simp [Addr.add]
  · simp only [Addr.add, h, if_false]
    simp
set_option maxRecDepth 100000 in
theorem hss_trod {H : Type} {enc : TypeId × Value → H} {W : World} {base : Nat} {spare : Nat → Bool} {held : Bool} {v : Value} {fuel : Nat} {y : DataW H × List MemPlace}
    (hf' : DataW.trod enc Try.prog W base spare held fuel 22 [v] = some y) : ∃ (l : List Hs) (a : Option Addr) (cap : Nat), v = .slice a l.length cap ∧ HssAt W a l ∧ (l.length : Int) ≤ 9223372036854775807 ∧ ∀ k, k < l.length → ((hsAt l k).flows.length : Int) ≤ 9223372036854775807 := by
  rcases Go.Deep.open_slice Try.underlying22 hf' with ⟨e, _⟩ | ⟨x, len, cap, m, n, D, Pl, e, _, hl, hm, hmm, _, hx⟩
  · obtain rfl : v = .slice none 0 0 := by simpa using e
    exact ⟨[], none, 0, rfl, HssAt.nil _ _, by simp, fun k hk => by simp at hk⟩
  · obtain rfl : v = .slice (some x) len cap := by simpa using e
    have hc3 : Try.prog.cellsOf 61 = 2 := by kernel_rfl
    have hlm : len ≤ m := by rw [hmm]; split <;> omega
    rw [maxLen] at hm
    have hspot : 0 < len → ∃ b off, x = ⟨b, off, none⟩ := by
      intro h0
      obtain ⟨cs', h1, h2⟩ := hx 0 (by omega)
      rw [hc3] at h1
      obtain ⟨_, hlen, hcell⟩ := World.cells?_some h1
      match cs', hlen with
      | [v0, v1], _ =>
        have e0 := hcell 0 (by omega)
        obtain ⟨b, off, spot⟩ := x
        have hs : spot = none := by simpa [Addr.add] using World.cell?_spot (w := W) (a := (⟨b, off, spot⟩ : Addr)) (v := v0) (by simpa [Addr.add] using e0)
        exact ⟨b, off, by rw [hs]⟩
    have each : ∀ i, i < len → ∃ q : Hs, ∃ b off ak ck, x = ⟨b, off, none⟩ ∧ (W.cell? ⟨b, off + i * 2, none⟩ = some (.int .i64 q.turn) ∧ W.cell? ⟨b, off + i * 2 + 1, none⟩ = some (.slice ak q.flows.length ck)) ∧ IntsAt W ak q.flows ∧ (q.flows.length ≤ ck ∧ (ak = none → ck = 0)) ∧ (q.flows.length : Int) ≤ 9223372036854775807 := by
      intro i hi
      obtain ⟨cs', h1, h2⟩ := hx i (by omega)
      rw [hc3] at h1
      obtain ⟨_, hlen, hcell⟩ := World.cells?_some h1
      match cs', hlen with
      | [v0, v1], _ =>
        obtain ⟨n0, rfl⟩ := int_field Try.underlying61 h2 0 _ rfl rfl (by kernel_rfl) .i64 Try.underlying2 v0 rfl
        obtain ⟨nn, yy, hy⟩ := field_of Try.underlying61 h2 1 _ rfl rfl (by kernel_rfl) v1 rfl
        obtain ⟨zl, ak, ck, rfl, q1, q2, q3, q4⟩ := ints_trod hy
        have e0 := hcell 0 (by omega)
        have e1 := hcell 1 (by omega)
        obtain ⟨b, off, rfl⟩ := hspot (by omega)
        rw [hsAddr b off i _ _ rfl] at e0 e1
        exact ⟨⟨n0, zl⟩, b, off, ak, ck, rfl, ⟨by simpa using e0, by simpa using e1⟩, q1, ⟨q3, q4⟩, q2⟩
    haveI : Inhabited Hs := ⟨⟨0, []⟩⟩
    obtain ⟨f, hff⟩ := Go.Deep.choose_lt each
    have hlen : ((List.range len).map f).length = len := by simp
    have hr : ∀ k, k < len → hsAt ((List.range len).map f) k = f k := fun k hk => by simp [hsAt, hk]
    refine ⟨(List.range len).map f, some x, cap, by rw [hlen], fun k hk => ?_, by rw [hlen]; omega, fun k hk => ?_⟩
    · rw [hlen] at hk
      obtain ⟨b, off, ak, ck, e1, e2, e3, e4, e5⟩ := hff k hk
      rw [hr k hk]
      exact ⟨b, off, ak, ck, by rw [e1], World.block_lt_of_cell? _ _ e2.1, e2, e3, e4⟩
    · rw [hlen] at hk
      obtain ⟨b, off, ak, ck, e1, e2, e3, e4, e5⟩ := hff k hk
      rw [hr k hk]
      exact e5
end Go.Proofs.Ytlfklpencobgmaa

/-
  A list of records with a list (Flow) that came in, opened. By the verifier, by program.
-/
import Derived.Test.YtllmkolchgmjoaaFwPlain
import Derived.Test.YtllmkolchgmjoaaField
import Derived.Test.YtllmkolchgmjoaaIntOpen
namespace Go.Proofs.Ytllmkolchgmjoaa
open Go.ChangeShapes Go.WideShapes Go.ChangeAt Go.RowKit

theorem fwAddr (b off i j : Nat) (x : Addr) (hx : x = ⟨b, off, none⟩) : (x.add (i * 3)).add j = ⟨b, off + i * 3 + j, none⟩ := by
  subst hx
  rw [Go.Deep.add_add]
  by_cases h : i * 3 + j = 0
  · obtain rfl : i = 0 := by omega
    obtain rfl : j = 0 := by omega
    simp [Addr.add]
  · simp only [Addr.add, h, if_false]
    simp
set_option maxRecDepth 100000 in
theorem fws_trod {H : Type} {enc : TypeId × Value → H} {W : World} {base : Nat} {spare : Nat → Bool} {held : Bool} {v : Value} {fuel : Nat} {y : DataW H × List MemPlace}
    (hf' : DataW.trod enc Try.prog W base spare held fuel 44 [v] = some y) : ∃ (l : List Fw) (a : Option Addr) (cap : Nat), v = .slice a l.length cap ∧ FwsAt W a l ∧ (l.length : Int) ≤ 9223372036854775807 ∧ ∀ k, k < l.length → ((fwAt l k).sizes.length : Int) ≤ 9223372036854775807 := by
  rcases Go.Deep.open_slice Try.underlying44 hf' with ⟨e, _⟩ | ⟨x, len, cap, m, n, D, Pl, e, _, hl, hm, hmm, _, hx⟩
  · obtain rfl : v = .slice none 0 0 := by simpa using e
    exact ⟨[], none, 0, rfl, FwsAt.nil _ _, by simp, fun k hk => by simp at hk⟩
  · obtain rfl : v = .slice (some x) len cap := by simpa using e
    have hc3 : Try.prog.cellsOf 91 = 3 := by kernel_rfl
    have hlm : len ≤ m := by rw [hmm]; split <;> omega
    rw [maxLen] at hm
    have hspot : 0 < len → ∃ b off, x = ⟨b, off, none⟩ := by
      intro h0
      obtain ⟨cs', h1, h2⟩ := hx 0 (by omega)
      rw [hc3] at h1
      obtain ⟨_, hlen, hcell⟩ := World.cells?_some h1
      match cs', hlen with
      | [v0, v1, v2], _ =>
        have e0 := hcell 0 (by omega)
        obtain ⟨b, off, spot⟩ := x
        have hs : spot = none := by simpa [Addr.add] using World.cell?_spot (w := W) (a := (⟨b, off, spot⟩ : Addr)) (v := v0) (by simpa [Addr.add] using e0)
        exact ⟨b, off, by rw [hs]⟩
    have each : ∀ i, i < len → ∃ q : Fw, ∃ b off ak ck, x = ⟨b, off, none⟩ ∧ (W.cell? ⟨b, off + i * 3, none⟩ = some (.int .i64 q.weight) ∧ W.cell? ⟨b, off + i * 3 + 1, none⟩ = some (.int .i64 q.finish) ∧ W.cell? ⟨b, off + i * 3 + 2, none⟩ = some (.slice ak q.sizes.length ck)) ∧ IntsAt W ak q.sizes ∧ (q.sizes.length ≤ ck ∧ (ak = none → ck = 0)) ∧ (q.sizes.length : Int) ≤ 9223372036854775807 := by
      intro i hi
      obtain ⟨cs', h1, h2⟩ := hx i (by omega)
      rw [hc3] at h1
      obtain ⟨_, hlen, hcell⟩ := World.cells?_some h1
      match cs', hlen with
      | [v0, v1, v2], _ =>
        obtain ⟨n0, rfl⟩ := int_field Try.underlying91 h2 0 _ rfl rfl (by kernel_rfl) .i64 Try.underlying2 v0 rfl
        obtain ⟨n1, rfl⟩ := int_field Try.underlying91 h2 1 _ rfl rfl (by kernel_rfl) .i64 Try.underlying2 v1 rfl
        obtain ⟨nn, yy, hy⟩ := field_of Try.underlying91 h2 2 _ rfl rfl (by kernel_rfl) v2 rfl
        obtain ⟨zl, ak, ck, rfl, q1, q2, q3, q4⟩ := ints_trod hy
        have e0 := hcell 0 (by omega)
        have e1 := hcell 1 (by omega)
        have e2 := hcell 2 (by omega)
        obtain ⟨b, off, rfl⟩ := hspot (by omega)
        rw [fwAddr b off i _ _ rfl] at e0 e1 e2
        exact ⟨⟨n0, n1, zl⟩, b, off, ak, ck, rfl, ⟨by simpa using e0, by simpa using e1, by simpa using e2⟩, q1, ⟨q3, q4⟩, q2⟩
    haveI : Inhabited Fw := ⟨⟨0, 0, []⟩⟩
    obtain ⟨f, hff⟩ := Go.Deep.choose_lt each
    have hlen : ((List.range len).map f).length = len := by simp
    have hr : ∀ k, k < len → fwAt ((List.range len).map f) k = f k := fun k hk => by simp [fwAt, hk]
    refine ⟨(List.range len).map f, some x, cap, by rw [hlen], fun k hk => ?_, by rw [hlen]; omega, fun k hk => ?_⟩
    · rw [hlen] at hk
      obtain ⟨b, off, ak, ck, e1, e2, e3, e4, e5⟩ := hff k hk
      rw [hr k hk]
      exact ⟨b, off, ak, ck, by rw [e1], World.block_lt_of_cell? _ _ e2.1, e2, e3, e4⟩
    · rw [hlen] at hk
      obtain ⟨b, off, ak, ck, e1, e2, e3, e4, e5⟩ := hff k hk
      rw [hr k hk]
      exact e5
end Go.Proofs.Ytllmkolchgmjoaa

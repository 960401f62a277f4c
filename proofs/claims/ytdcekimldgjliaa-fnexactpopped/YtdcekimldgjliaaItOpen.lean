/-
  A record (Item) and a list of them that came in, opened: their numbers. By the verifier, by program.
-/
import Derived.Test.YtdcekimldgjliaaItPlain
import Derived.Test.YtdcekimldgjliaaField
namespace Go.Proofs.Ytdcekimldgjliaa
open Go.ChangeShapes Go.WideShapes Go.ChangeAt Go.RowKit

theorem itArray {cs : Array Value} (h : cs.size = 3) : ∃ c0 c1 c2, cs = #[c0, c1, c2] := by
  obtain ⟨l⟩ := cs
  match l, h with
  | [c0, c1, c2], _ => exact ⟨c0, c1, c2, rfl⟩
theorem it_open {H : Type} {enc : TypeId × Value → H} {W : World} {r : Reach} {b0 base : Nat} {spare : Nat → Bool} {held : Bool} {v : Value} {d : DataW H} {p : List MemPlace} (hv : Value.okWide Try.prog W r b0 34 v)
    (h : DataW.Trod enc Try.prog W base spare held 34 v d p) : ∃ x : It, v = x.val := by
  obtain ⟨cs, rfl, hsz⟩ := okWide_struct Try.underlying34 hv
  obtain ⟨c0, c1, c2, rfl⟩ := itArray (hsz.trans (by kernel_rfl))
  obtain ⟨fuel, hf⟩ := h
  have hf' : DataW.trod enc Try.prog W base spare held fuel 34 [c0, c1, c2] = some (d, p) := by simpa [Value.cells] using hf
  obtain ⟨n0, rfl⟩ := int_field Try.underlying34 hf' 0 _ rfl rfl (by kernel_rfl) .i64 Try.underlying2 c0 rfl
  obtain ⟨n1, rfl⟩ := int_field Try.underlying34 hf' 1 _ rfl rfl (by kernel_rfl) .i64 Try.underlying2 c1 rfl
  obtain ⟨n2, rfl⟩ := int_field Try.underlying34 hf' 2 _ rfl rfl (by kernel_rfl) .i64 Try.underlying2 c2 rfl
  exact ⟨⟨n0, n1, n2⟩, rfl⟩
theorem itAddr (b off i j : Nat) (x : Addr) (hx : x = ⟨b, off, none⟩) : (x.add (i * 3)).add j = ⟨b, off + i * 3 + j, none⟩ := by
  subst hx
  rw [Go.Deep.add_add]
  by_cases h : i * 3 + j = 0
  · obtain rfl : i = 0 := by omega
    obtain rfl : j = 0 := by omega
    simp [Addr.add]
  · simp only [Addr.add, h, if_false]
    simp
set_option maxRecDepth 100000 in
theorem its_trod {H : Type} {enc : TypeId × Value → H} {W : World} {base : Nat} {spare : Nat → Bool} {held : Bool} {v : Value} {fuel : Nat} {y : DataW H × List MemPlace}
    (hf' : DataW.trod enc Try.prog W base spare held fuel 62 [v] = some y) : ∃ (l : List It) (a : Option Addr) (cap : Nat), v = .slice a l.length cap ∧ ItsAt W a l ∧ (l.length : Int) ≤ 9223372036854775807 ∧ l.length ≤ cap ∧ (a = none → cap = 0) := by
  rcases Go.Deep.open_slice Try.underlying62 hf' with ⟨e, _⟩ | ⟨x, len, cap, m, n, D, Pl, e, _, hl, hm, hmm, _, hx⟩
  · obtain rfl : v = .slice none 0 0 := by simpa using e
    exact ⟨[], none, 0, rfl, ItsAt.nil _ _, by simp, by simp, fun _ => rfl⟩
  · obtain rfl : v = .slice (some x) len cap := by simpa using e
    have hc3 : Try.prog.cellsOf 34 = 3 := by kernel_rfl
    have hlm : len ≤ m := by rw [hmm]; split <;> omega
    rw [maxLen] at hm
    have hspot : 0 < len → ∃ b off, x = ⟨b, off, none⟩ := by
      intro h0
      obtain ⟨cs', h1, h2⟩ := hx 0 (by omega)
      rw [hc3] at h1
      obtain ⟨_, hlen, hcell⟩ := World.cells?_some h1
      match cs', hlen with
      | [v0, v1, v2], _ =>
        have e0 := hcell 0 (by omega)
        obtain ⟨b, off, spot⟩ := x
        have hs : spot = none := by simpa [Addr.add] using World.cell?_spot (w := W) (a := (⟨b, off, spot⟩ : Addr)) (v := v0) (by simpa [Addr.add] using e0)
        exact ⟨b, off, by rw [hs]⟩
    have each : ∀ i, i < len → ∃ q : It, ∃ b off, x = ⟨b, off, none⟩ ∧ W.cell? ⟨b, off + i * 3, none⟩ = some (.int .i64 q.id) ∧ W.cell? ⟨b, off + i * 3 + 1, none⟩ = some (.int .i64 q.size) ∧ W.cell? ⟨b, off + i * 3 + 2, none⟩ = some (.int .i64 q.tm) := by
      intro i hi
      obtain ⟨cs', h1, h2⟩ := hx i (by omega)
      rw [hc3] at h1
      obtain ⟨_, hlen, hcell⟩ := World.cells?_some h1
      match cs', hlen with
      | [v0, v1, v2], _ =>
        obtain ⟨n0, rfl⟩ := int_field Try.underlying34 h2 0 _ rfl rfl (by kernel_rfl) .i64 Try.underlying2 v0 rfl
        obtain ⟨n1, rfl⟩ := int_field Try.underlying34 h2 1 _ rfl rfl (by kernel_rfl) .i64 Try.underlying2 v1 rfl
        obtain ⟨n2, rfl⟩ := int_field Try.underlying34 h2 2 _ rfl rfl (by kernel_rfl) .i64 Try.underlying2 v2 rfl
        have e0 := hcell 0 (by omega)
        have e1 := hcell 1 (by omega)
        have e2 := hcell 2 (by omega)
        obtain ⟨b, off, rfl⟩ := hspot (by omega)
        rw [itAddr b off i _ _ rfl] at e0 e1 e2
        exact ⟨⟨n0, n1, n2⟩, b, off, rfl, by simpa using e0, by simpa using e1, by simpa using e2⟩
    haveI : Inhabited It := ⟨⟨0, 0, 0⟩⟩
    obtain ⟨f, hff⟩ := Go.Deep.choose_lt each
    have hlen : ((List.range len).map f).length = len := by simp
    refine ⟨(List.range len).map f, some x, cap, by rw [hlen], ?_, by rw [hlen]; omega, by rw [hlen]; exact hl, fun h => by cases h⟩
    intro k hk
    rw [hlen] at hk
    obtain ⟨b, off, e, c0, c1, c2⟩ := hff k hk
    have hr : itAt ((List.range len).map f) k = f k := by simp [itAt, hk]
    rw [hr]
    exact ⟨b, off, by rw [e], World.block_lt_of_cell? _ _ c0, c0, c1, c2⟩
theorem its_open {H : Type} {enc : TypeId × Value → H} {W : World} {r : Reach} {b0 base : Nat} {spare : Nat → Bool} {held : Bool} {v : Value} {d : DataW H} {p : List MemPlace} (hv : Value.okWide Try.prog W r b0 62 v)
    (h : DataW.Trod enc Try.prog W base spare held 62 v d p) : ∃ (l : List It) (a : Option Addr) (cap : Nat), v = .slice a l.length cap ∧ ItsAt W a l ∧ (l.length : Int) ≤ 9223372036854775807 := by
  obtain ⟨a0, len0, cap0, rfl⟩ := okWide_slice Try.underlying62 hv
  obtain ⟨fuel, hf⟩ := h
  have hf' : DataW.trod enc Try.prog W base spare held fuel 62 [.slice a0 len0 cap0] = some (d, p) := by simpa [Value.cells] using hf
  obtain ⟨l, a, cap, e, h1, h2, _⟩ := its_trod hf'
  exact ⟨l, a, cap, e, h1, h2⟩
end Go.Proofs.Ytdcekimldgjliaa

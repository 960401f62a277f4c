/-
  A record (Rule) and a list of them that came in, opened: their numbers. By the verifier, by program.
-/
import Derived.Test.YtcafobokdfglfaaRuPlain
import Derived.Test.YtcafobokdfglfaaField
namespace Go.Proofs.Ytcafobokdfglfaa
open Go.ChangeShapes Go.WideShapes Go.ChangeAt Go.RowKit

set_option maxRecDepth 100000 in
theorem ruArray {cs : Array Value} (h : cs.size = 10) : ∃ c0 c1 c2 c3 c4 c5 c6 c7 c8 c9, cs = #[c0, c1, c2, c3, c4, c5, c6, c7, c8, c9] := by
  obtain ⟨l⟩ := cs
  match l, h with
  | [c0, c1, c2, c3, c4, c5, c6, c7, c8, c9], _ => exact ⟨c0, c1, c2, c3, c4, c5, c6, c7, c8, c9, rfl⟩
set_option maxRecDepth 100000 in
theorem ru_open {H : Type} {enc : TypeId × Value → H} {W : World} {r : Reach} {b0 base : Nat} {spare : Nat → Bool} {held : Bool} {v : Value} {d : DataW H} {p : List MemPlace} (hv : Value.okWide Try.prog W r b0 30 v)
    (h : DataW.Trod enc Try.prog W base spare held 30 v d p) : ∃ x : Ru, v = x.val := by
  obtain ⟨cs, rfl, hsz⟩ := okWide_struct Try.underlying30 hv
  obtain ⟨c0, c1, c2, c3, c4, c5, c6, c7, c8, c9, rfl⟩ := ruArray (hsz.trans (by kernel_rfl))
  obtain ⟨fuel, hf⟩ := h
  have hf' : DataW.trod enc Try.prog W base spare held fuel 30 [c0, c1, c2, c3, c4, c5, c6, c7, c8, c9] = some (d, p) := by simpa [Value.cells] using hf
  obtain ⟨n0, rfl⟩ := int_field Try.underlying30 hf' 0 _ rfl rfl (by kernel_rfl) .i64 Try.underlying2 c0 rfl
  obtain ⟨n1, rfl⟩ := int_field Try.underlying30 hf' 1 _ rfl rfl (by kernel_rfl) .i64 Try.underlying2 c1 rfl
  obtain ⟨n2, rfl⟩ := int_field Try.underlying30 hf' 2 _ rfl rfl (by kernel_rfl) .i64 Try.underlying2 c2 rfl
  obtain ⟨n3, rfl⟩ := int_field Try.underlying30 hf' 3 _ rfl rfl (by kernel_rfl) .i64 Try.underlying2 c3 rfl
  obtain ⟨n4, rfl⟩ := int_field Try.underlying30 hf' 4 _ rfl rfl (by kernel_rfl) .i64 Try.underlying2 c4 rfl
  obtain ⟨n5, rfl⟩ := int_field Try.underlying30 hf' 5 _ rfl rfl (by kernel_rfl) .i64 Try.underlying2 c5 rfl
  obtain ⟨n6, rfl⟩ := int_field Try.underlying30 hf' 6 _ rfl rfl (by kernel_rfl) .i64 Try.underlying2 c6 rfl
  obtain ⟨n7, rfl⟩ := int_field Try.underlying30 hf' 7 _ rfl rfl (by kernel_rfl) .i64 Try.underlying2 c7 rfl
  obtain ⟨n8, rfl⟩ := int_field Try.underlying30 hf' 8 _ rfl rfl (by kernel_rfl) .i64 Try.underlying2 c8 rfl
  obtain ⟨n9, rfl⟩ := int_field Try.underlying30 hf' 9 _ rfl rfl (by kernel_rfl) .i64 Try.underlying2 c9 rfl
  exact ⟨⟨n0, n1, n2, n3, n4, n5, n6, n7, n8, n9⟩, rfl⟩
theorem ruAddr (b off i j : Nat) (x : Addr) (hx : x = ⟨b, off, none⟩) : (x.add (i * 10)).add j = ⟨b, off + i * 10 + j, none⟩ := by
  subst hx
  rw [Go.Deep.add_add]
  by_cases h : i * 10 + j = 0
  · obtain rfl : i = 0 := by omega
    obtain rfl : j = 0 := by omega
    simp [Addr.add]
  · simp only [Addr.add, h, if_false]
    simp
set_option maxRecDepth 100000 in
set_option maxRecDepth 100000 in
theorem rus_open {H : Type} {enc : TypeId × Value → H} {W : World} {r : Reach} {b0 base : Nat} {spare : Nat → Bool} {held : Bool} {v : Value} {d : DataW H} {p : List MemPlace} (hv : Value.okWide Try.prog W r b0 22 v)
    (h : DataW.Trod enc Try.prog W base spare held 22 v d p) : ∃ (l : List Ru) (a : Option Addr) (cap : Nat), v = .slice a l.length cap ∧ RusAt W a l ∧ (l.length : Int) ≤ 9223372036854775807 := by
  obtain ⟨a0, len0, cap0, rfl⟩ := okWide_slice Try.underlying22 hv
  obtain ⟨fuel, hf⟩ := h
  have hf' : DataW.trod enc Try.prog W base spare held fuel 22 [.slice a0 len0 cap0] = some (d, p) := by simpa [Value.cells] using hf
  rcases Go.Deep.open_slice Try.underlying22 hf' with ⟨e, _⟩ | ⟨x, len, cap, m, n, D, Pl, e, _, hl, hm, hmm, _, hx⟩
  · obtain ⟨rfl, rfl, rfl⟩ : a0 = none ∧ len0 = 0 ∧ cap0 = 0 := by simpa using e
    exact ⟨[], none, 0, rfl, RusAt.nil _ _, by simp⟩
  · obtain ⟨rfl, rfl, rfl⟩ : a0 = some x ∧ len0 = len ∧ cap0 = cap := by simpa using e
    have hc3 : Try.prog.cellsOf 30 = 10 := by kernel_rfl
    have hlm : len0 ≤ m := by rw [hmm]; split <;> omega
    rw [maxLen] at hm
    have hspot : 0 < len0 → ∃ b off, x = ⟨b, off, none⟩ := by
      intro h0
      obtain ⟨cs', h1, h2⟩ := hx 0 (by omega)
      rw [hc3] at h1
      obtain ⟨_, hlen, hcell⟩ := World.cells?_some h1
      match cs', hlen with
      | [v0, v1, v2, v3, v4, v5, v6, v7, v8, v9], _ =>
        have e0 := hcell 0 (by omega)
        obtain ⟨b, off, spot⟩ := x
        have hs : spot = none := by simpa [Addr.add] using World.cell?_spot (w := W) (a := (⟨b, off, spot⟩ : Addr)) (v := v0) (by simpa [Addr.add] using e0)
        exact ⟨b, off, by rw [hs]⟩
    have each : ∀ i, i < len0 → ∃ q : Ru, ∃ b off, x = ⟨b, off, none⟩ ∧ W.cell? ⟨b, off + i * 10, none⟩ = some (.int .i64 q.id) ∧ W.cell? ⟨b, off + i * 10 + 1, none⟩ = some (.int .i64 q.prio) ∧ W.cell? ⟨b, off + i * 10 + 2, none⟩ = some (.int .i64 q.snet) ∧ W.cell? ⟨b, off + i * 10 + 3, none⟩ = some (.int .i64 q.sbits) ∧ W.cell? ⟨b, off + i * 10 + 4, none⟩ = some (.int .i64 q.dnet) ∧ W.cell? ⟨b, off + i * 10 + 5, none⟩ = some (.int .i64 q.dbits) ∧ W.cell? ⟨b, off + i * 10 + 6, none⟩ = some (.int .i64 q.proto) ∧ W.cell? ⟨b, off + i * 10 + 7, none⟩ = some (.int .i64 q.low) ∧ W.cell? ⟨b, off + i * 10 + 8, none⟩ = some (.int .i64 q.high) ∧ W.cell? ⟨b, off + i * 10 + 9, none⟩ = some (.int .i64 q.cls) := by
      intro i hi
      obtain ⟨cs', h1, h2⟩ := hx i (by omega)
      rw [hc3] at h1
      obtain ⟨_, hlen, hcell⟩ := World.cells?_some h1
      match cs', hlen with
      | [v0, v1, v2, v3, v4, v5, v6, v7, v8, v9], _ =>
        obtain ⟨n0, rfl⟩ := int_field Try.underlying30 h2 0 _ rfl rfl (by kernel_rfl) .i64 Try.underlying2 v0 rfl
        obtain ⟨n1, rfl⟩ := int_field Try.underlying30 h2 1 _ rfl rfl (by kernel_rfl) .i64 Try.underlying2 v1 rfl
        obtain ⟨n2, rfl⟩ := int_field Try.underlying30 h2 2 _ rfl rfl (by kernel_rfl) .i64 Try.underlying2 v2 rfl
        obtain ⟨n3, rfl⟩ := int_field Try.underlying30 h2 3 _ rfl rfl (by kernel_rfl) .i64 Try.underlying2 v3 rfl
        obtain ⟨n4, rfl⟩ := int_field Try.underlying30 h2 4 _ rfl rfl (by kernel_rfl) .i64 Try.underlying2 v4 rfl
        obtain ⟨n5, rfl⟩ := int_field Try.underlying30 h2 5 _ rfl rfl (by kernel_rfl) .i64 Try.underlying2 v5 rfl
        obtain ⟨n6, rfl⟩ := int_field Try.underlying30 h2 6 _ rfl rfl (by kernel_rfl) .i64 Try.underlying2 v6 rfl
        obtain ⟨n7, rfl⟩ := int_field Try.underlying30 h2 7 _ rfl rfl (by kernel_rfl) .i64 Try.underlying2 v7 rfl
        obtain ⟨n8, rfl⟩ := int_field Try.underlying30 h2 8 _ rfl rfl (by kernel_rfl) .i64 Try.underlying2 v8 rfl
        obtain ⟨n9, rfl⟩ := int_field Try.underlying30 h2 9 _ rfl rfl (by kernel_rfl) .i64 Try.underlying2 v9 rfl
        have e0 := hcell 0 (by omega)
        have e1 := hcell 1 (by omega)
        have e2 := hcell 2 (by omega)
        have e3 := hcell 3 (by omega)
        have e4 := hcell 4 (by omega)
        have e5 := hcell 5 (by omega)
        have e6 := hcell 6 (by omega)
        have e7 := hcell 7 (by omega)
        have e8 := hcell 8 (by omega)
        have e9 := hcell 9 (by omega)
        obtain ⟨b, off, rfl⟩ := hspot (by omega)
        rw [ruAddr b off i _ _ rfl] at e0 e1 e2 e3 e4 e5 e6 e7 e8 e9
        exact ⟨⟨n0, n1, n2, n3, n4, n5, n6, n7, n8, n9⟩, b, off, rfl, by simpa using e0, by simpa using e1, by simpa using e2, by simpa using e3, by simpa using e4, by simpa using e5, by simpa using e6, by simpa using e7, by simpa using e8, by simpa using e9⟩
    haveI : Inhabited Ru := ⟨⟨0, 0, 0, 0, 0, 0, 0, 0, 0, 0⟩⟩
    obtain ⟨f, hff⟩ := Go.Deep.choose_lt each
    have hlen : ((List.range len0).map f).length = len0 := by simp
    refine ⟨(List.range len0).map f, some x, cap0, by rw [hlen], ?_, by rw [hlen]; omega⟩
    intro k hk
    rw [hlen] at hk
    obtain ⟨b, off, e, c0, c1, c2, c3, c4, c5, c6, c7, c8, c9⟩ := hff k hk
    have hr : ruAt ((List.range len0).map f) k = f k := by simp [ruAt, hk]
    rw [hr]
    exact ⟨b, off, by rw [e], World.block_lt_of_cell? _ _ c0, c0, c1, c2, c3, c4, c5, c6, c7, c8, c9⟩
end Go.Proofs.Ytcafobokdfglfaa

import Derived.Test.YtdcekimldgjliaaItOpen
import Derived.Test.YtdcekimldgjliaaM0IzPlain
import Derived.Test.YtdcekimldgjliaaRwStr
/-
  A list of lists of records (Item) that came in, opened. By the verifier, by program.
-/
namespace Go.Proofs.Ytdcekimldgjliaa
open Go.ChangeShapes Go.WideShapes Go.ChangeAt Go.RowKit

theorem izAddr (b off i : Nat) (x : Addr) (hx : x = ⟨b, off, none⟩) : x.add i = ⟨b, off + i, none⟩ := by
  subst hx
  by_cases h : i = 0
  · subst h; simp [Addr.add]
  · simp [Addr.add, h]
set_option maxRecDepth 100000 in
theorem izs_trod {H : Type} {enc : TypeId × Value → H} {W : World} {base : Nat} {spare : Nat → Bool} {held : Bool} {v : Value} {fuel : Nat} {y : DataW H × List MemPlace}
    (hf' : DataW.trod enc Try.prog W base spare held fuel 22 [v] = some y) :
    ∃ (ls : List (List It)) (a : Option Addr) (cap : Nat), v = .slice a ls.length cap ∧ IzAt W a ls ∧ (ls.length : Int) ≤ 9223372036854775807 ∧ ∀ k, k < ls.length → ((izAt ls k).length : Int) ≤ 9223372036854775807 := by
  rcases Go.Deep.open_slice1 Try.underlying22 (by kernel_rfl) hf' with ⟨e, _⟩ | ⟨x, len, cap, m, n, V, D, Pl, e, _, hl, hm, hmm, _, hx⟩
  · obtain rfl : v = .slice none 0 0 := by simpa using e
    exact ⟨[], none, 0, rfl, IzAt.nil _ _, by simp, fun k hk => by simp at hk⟩
  · obtain rfl : v = .slice (some x) len cap := by simpa using e
    have hlm : len ≤ m := by rw [hmm]; split <;> omega
    rw [maxLen] at hm
    have hspot : 0 < len → ∃ b off, x = ⟨b, off, none⟩ := by
      intro h0
      have e0 := (hx 0 (by omega)).1
      obtain ⟨b, off, spot⟩ := x
      have hs : spot = none := by simpa [Addr.add] using World.cell?_spot (w := W) (a := (⟨b, off, spot⟩ : Addr)) (v := V 0) (by simpa [Addr.add] using e0)
      exact ⟨b, off, by rw [hs]⟩
    have each : ∀ i, i < len → ∃ q : List It, ∃ b off ak ck, x = ⟨b, off, none⟩ ∧ b < W.heap.size ∧ W.cell? ⟨b, off + i, none⟩ = some (.slice ak q.length ck) ∧ ItsAt W ak q ∧ (q.length ≤ ck ∧ (ak = none → ck = 0)) ∧ (q.length : Int) ≤ 9223372036854775807 := by
      intro i hi
      obtain ⟨h1, h2⟩ := hx i (by omega)
      obtain ⟨q, ak, ck, e1, e2, e3, e4⟩ := its_trod h2
      obtain ⟨b, off, rfl⟩ := hspot (by omega)
      rw [izAddr b off i _ rfl, e1] at h1
      exact ⟨q, b, off, ak, ck, rfl, World.block_lt_of_cell? _ _ h1, h1, e2, e4, e3⟩
    haveI : Inhabited (List It) := ⟨[]⟩
    obtain ⟨f, hff⟩ := Go.Deep.choose_lt each
    have hlen : ((List.range len).map f).length = len := by simp
    have hr : ∀ k, k < len → izAt ((List.range len).map f) k = f k := fun k hk => by simp [izAt, hk]
    refine ⟨(List.range len).map f, some x, cap, by rw [hlen], fun k hk => ?_, by rw [hlen]; omega, fun k hk => ?_⟩
    · rw [hlen] at hk
      obtain ⟨b, off, ak, ck, e1, e2, e3, e4, e5, _⟩ := hff k hk
      rw [hr k hk]
      exact ⟨b, off, ak, ck, by rw [e1], e2, e3, e4, e5⟩
    · rw [hlen] at hk
      obtain ⟨b, off, ak, ck, e1, e2, e3, e4, e5, e6⟩ := hff k hk
      rw [hr k hk]
      exact e6
end Go.Proofs.Ytdcekimldgjliaa

/-
  A record of a number and a list (Rows) that came in, opened. By the verifier, by program.
-/
namespace Go.Proofs.Ytdcekimldgjliaa
open Go.ChangeShapes Go.WideShapes Go.ChangeAt Go.RowKit

theorem rwArray {cs : Array Value} (h : cs.size = 2) : ∃ c0 c1, cs = #[c0, c1] := by
  obtain ⟨l⟩ := cs
  match l, h with
  | [c0, c1], _ => exact ⟨c0, c1, rfl⟩
theorem rw_open {H : Type} {enc : TypeId × Value → H} {W : World} {x : Reach} {b0 base : Nat} {spare : Nat → Bool} {held : Bool} {v : Value} {d : DataW H} {p : List MemPlace} (hv : Value.okWide Try.prog W x b0 24 v)
    (h : DataW.Trod enc Try.prog W base spare held 24 v d p) : ∃ (r : Rw) (a : Option Addr) (c : Nat), v = r.val a c ∧ IzAt W a r.lists ∧ (r.lists.length : Int) ≤ 9223372036854775807 ∧ ∀ k, k < r.lists.length → ((izAt r.lists k).length : Int) ≤ 9223372036854775807 := by
  obtain ⟨cs, rfl, hsz⟩ := okWide_struct Try.underlying24 hv
  obtain ⟨c0, c1, rfl⟩ := rwArray (hsz.trans (by kernel_rfl))
  obtain ⟨fuel, hf⟩ := h
  have hf' : DataW.trod enc Try.prog W base spare held fuel 24 [c0, c1] = some (d, p) := by simpa [Value.cells] using hf
  obtain ⟨n0, rfl⟩ := int_field Try.underlying24 hf' 0 _ rfl rfl (by kernel_rfl) .i64 Try.underlying2 c0 rfl
  obtain ⟨n1, y, hy⟩ := field_of Try.underlying24 hf' 1 _ rfl rfl (by kernel_rfl) c1 rfl
  obtain ⟨ls, a, c, rfl, h1, h2, h3⟩ := izs_trod hy
  exact ⟨⟨n0, ls⟩, a, c, rfl, h1, h2, h3⟩
end Go.Proofs.Ytdcekimldgjliaa

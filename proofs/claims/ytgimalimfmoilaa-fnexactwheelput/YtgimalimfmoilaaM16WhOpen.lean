import Derived.Test.YtgimalimfmoilaaRows
import Derived.WalkKit
import Derived.ProofKit
import Derived.OpenShut
import Derived.ShutString
import Derived.ChangeOld
import Derived.Below
import Derived.Deep.Slices
import Derived.Test.YtgimalimfmoilaaDuPlain
import Derived.Test.YtgimalimfmoilaaM0DzPlain
import Derived.Test.YtgimalimfmoilaaM8Things
/-
  A field of a struct that came in. By the verifier.
-/
namespace Go.Proofs.Ytgimalimfmoilaa
open Go.ChangeShapes Go.WideShapes Go.ChangeAt Go.RowKit

theorem field_of {H : Type} {enc : TypeId × Value → H} {P : Program} {w : World} {base : Nat} {spare : Nat → Bool} {held : Bool} {t : TypeId} {fs : Array Field} {fuel : Nat} {cs : List Value} {x : DataW H × List MemPlace}
    (ht : P.underlying t = some (.struct fs)) (h : DataW.trod enc P w base spare held fuel t cs = some x) (j : Nat) (f : Field) (hj : fs[j]? = some f) (ho : f.offset = j) (hk : P.cellsOf f.type = 1) (c : Value) (hc : cs[j]? = some c) :
    ∃ n y, DataW.trod enc P w base spare held n f.type [c] = some y := by
  obtain ⟨xs, n, _, rfl, hl, hlen, hf⟩ := DataW.trod_struct ht h
  have h1 := hf j f hj
  have hlt : j < fs.size := by
    apply Classical.byContradiction
    intro hn
    rw [Array.getElem?_eq_none (by omega)] at hj
    cases hj
  have hx : xs[j]? = some xs[j] := List.getElem?_eq_getElem (by omega)
  have hcl : j < cs.length := (List.getElem?_eq_some_iff.1 hc).1
  have hd : (cs.drop f.offset).take (P.cellsOf f.type) = [c] := by
    rw [ho, hk, List.drop_eq_getElem_cons hcl]
    simp [(List.getElem?_eq_some_iff.1 hc).2]
  rw [hd, hx] at h1
  exact ⟨n, _, h1⟩

theorem int_field {H : Type} {enc : TypeId × Value → H} {P : Program} {w : World} {base : Nat} {spare : Nat → Bool} {held : Bool} {t : TypeId} {fs : Array Field} {fuel : Nat} {cs : List Value} {x : DataW H × List MemPlace}
    (ht : P.underlying t = some (.struct fs)) (h : DataW.trod enc P w base spare held fuel t cs = some x) (j : Nat) (f : Field) (hj : fs[j]? = some f) (ho : f.offset = j) (hk : P.cellsOf f.type = 1) (k : IntKind) (hu : P.underlying f.type = some (.int k)) (c : Value) (hc : cs[j]? = some c) :
    ∃ n : Int, c = .int k n := by
  obtain ⟨m, y, hy⟩ := field_of ht h j f hj ho hk c hc
  obtain ⟨n, e, _⟩ := DataW.trod_int hu hy
  exact ⟨n, by simpa using e⟩
end Go.Proofs.Ytgimalimfmoilaa

/-
  A record (Due) and a list of them that came in, opened: their numbers. By the verifier, by program.
-/
namespace Go.Proofs.Ytgimalimfmoilaa
open Go.ChangeShapes Go.WideShapes Go.ChangeAt Go.RowKit

theorem duArray {cs : Array Value} (h : cs.size = 2) : ∃ c0 c1, cs = #[c0, c1] := by
  obtain ⟨l⟩ := cs
  match l, h with
  | [c0, c1], _ => exact ⟨c0, c1, rfl⟩
set_option maxRecDepth 100000 in
theorem du_open {H : Type} {enc : TypeId × Value → H} {W : World} {r : Reach} {b0 base : Nat} {spare : Nat → Bool} {held : Bool} {v : Value} {d : DataW H} {p : List MemPlace} (hv : Value.okWide Try.prog W r b0 30 v)
    (h : DataW.Trod enc Try.prog W base spare held 30 v d p) : ∃ x : Du, v = x.val := by
  obtain ⟨cs, rfl, hsz⟩ := okWide_struct Try.underlying30 hv
  obtain ⟨c0, c1, rfl⟩ := duArray (hsz.trans (by kernel_rfl))
  obtain ⟨fuel, hf⟩ := h
  have hf' : DataW.trod enc Try.prog W base spare held fuel 30 [c0, c1] = some (d, p) := by simpa [Value.cells] using hf
  obtain ⟨n0, rfl⟩ := int_field Try.underlying30 hf' 0 _ rfl rfl (by kernel_rfl) .i64 Try.underlying2 c0 rfl
  obtain ⟨n1, rfl⟩ := int_field Try.underlying30 hf' 1 _ rfl rfl (by kernel_rfl) .i64 Try.underlying2 c1 rfl
  exact ⟨⟨n0, n1⟩, rfl⟩
theorem duAddr (b off i j : Nat) (x : Addr) (hx : x = ⟨b, off, none⟩) : (x.add (i * 2)).add j = ⟨b, off + i * 2 + j, none⟩ := by
  subst hx
  rw [Go.Deep.add_add]
  by_cases h : i * 2 + j = 0
  · obtain rfl : i = 0 := by omega
    obtain rfl : j = 0 := by omega
    simp [Addr.add]
  · simp only [Addr.add, h, if_false]
    simp
set_option maxRecDepth 100000 in
theorem dus_trod {H : Type} {enc : TypeId × Value → H} {W : World} {base : Nat} {spare : Nat → Bool} {held : Bool} {v : Value} {fuel : Nat} {y : DataW H × List MemPlace}
    (hf' : DataW.trod enc Try.prog W base spare held fuel 22 [v] = some y) : ∃ (l : List Du) (a : Option Addr) (cap : Nat), v = .slice a l.length cap ∧ DusAt W a l ∧ (l.length : Int) ≤ 9223372036854775807 ∧ l.length ≤ cap ∧ (a = none → cap = 0) := by
  rcases Go.Deep.open_slice Try.underlying22 hf' with ⟨e, _⟩ | ⟨x, len, cap, m, n, D, Pl, e, _, hl, hm, hmm, _, hx⟩
  · obtain rfl : v = .slice none 0 0 := by simpa using e
    exact ⟨[], none, 0, rfl, DusAt.nil _ _, by simp, by simp, fun _ => rfl⟩
  · obtain rfl : v = .slice (some x) len cap := by simpa using e
    have hc3 : Try.prog.cellsOf 30 = 2 := by kernel_rfl
    have hlm : len ≤ m := by rw [hmm]; split <;> omega
    rw [maxLen] at hm
    have hspot : 0 < len → ∃ b off, x = ⟨b, off, none⟩ := by
      intro h0
      obtain ⟨cs', h1, h2⟩ := hx 0 (by omega)
      rw [hc3] at h1
      obtain ⟨_, hlen, hcell⟩ := World.cells?_some h1
      match cs', hlen with
      | [v0, v1], _ =>
        have e0 := hcell 0 (by omega)
        obtain ⟨b, off, spot⟩ := x
        have hs : spot = none := by simpa [Addr.add] using World.cell?_spot (w := W) (a := (⟨b, off, spot⟩ : Addr)) (v := v0) (by simpa [Addr.add] using e0)
        exact ⟨b, off, by rw [hs]⟩
    have each : ∀ i, i < len → ∃ q : Du, ∃ b off, x = ⟨b, off, none⟩ ∧ W.cell? ⟨b, off + i * 2, none⟩ = some (.int .i64 q.time) ∧ W.cell? ⟨b, off + i * 2 + 1, none⟩ = some (.int .i64 q.id) := by
      intro i hi
      obtain ⟨cs', h1, h2⟩ := hx i (by omega)
      rw [hc3] at h1
      obtain ⟨_, hlen, hcell⟩ := World.cells?_some h1
      match cs', hlen with
      | [v0, v1], _ =>
        obtain ⟨n0, rfl⟩ := int_field Try.underlying30 h2 0 _ rfl rfl (by kernel_rfl) .i64 Try.underlying2 v0 rfl
        obtain ⟨n1, rfl⟩ := int_field Try.underlying30 h2 1 _ rfl rfl (by kernel_rfl) .i64 Try.underlying2 v1 rfl
        have e0 := hcell 0 (by omega)
        have e1 := hcell 1 (by omega)
        obtain ⟨b, off, rfl⟩ := hspot (by omega)
        rw [duAddr b off i _ _ rfl] at e0 e1
        exact ⟨⟨n0, n1⟩, b, off, rfl, by simpa using e0, by simpa using e1⟩
    haveI : Inhabited Du := ⟨⟨0, 0⟩⟩
    obtain ⟨f, hff⟩ := Go.Deep.choose_lt each
    have hlen : ((List.range len).map f).length = len := by simp
    refine ⟨(List.range len).map f, some x, cap, by rw [hlen], ?_, by rw [hlen]; omega, by rw [hlen]; exact hl, fun h => by cases h⟩
    intro k hk
    rw [hlen] at hk
    obtain ⟨b, off, e, c0, c1⟩ := hff k hk
    have hr : duAt ((List.range len).map f) k = f k := by simp [duAt, hk]
    rw [hr]
    exact ⟨b, off, by rw [e], World.block_lt_of_cell? _ _ c0, c0, c1⟩
set_option maxRecDepth 100000 in
theorem dus_open {H : Type} {enc : TypeId × Value → H} {W : World} {r : Reach} {b0 base : Nat} {spare : Nat → Bool} {held : Bool} {v : Value} {d : DataW H} {p : List MemPlace} (hv : Value.okWide Try.prog W r b0 22 v)
    (h : DataW.Trod enc Try.prog W base spare held 22 v d p) : ∃ (l : List Du) (a : Option Addr) (cap : Nat), v = .slice a l.length cap ∧ DusAt W a l ∧ (l.length : Int) ≤ 9223372036854775807 := by
  obtain ⟨a0, len0, cap0, rfl⟩ := okWide_slice Try.underlying22 hv
  obtain ⟨fuel, hf⟩ := h
  have hf' : DataW.trod enc Try.prog W base spare held fuel 22 [.slice a0 len0 cap0] = some (d, p) := by simpa [Value.cells] using hf
  obtain ⟨l, a, cap, e, h1, h2, _⟩ := dus_trod hf'
  exact ⟨l, a, cap, e, h1, h2⟩
end Go.Proofs.Ytgimalimfmoilaa

/-
  A list of lists of records (Due) that came in, opened. By the verifier, by program.
-/
namespace Go.Proofs.Ytgimalimfmoilaa
open Go.ChangeShapes Go.WideShapes Go.ChangeAt Go.RowKit

theorem dzAddr (b off i : Nat) (x : Addr) (hx : x = ⟨b, off, none⟩) : x.add i = ⟨b, off + i, none⟩ := by
  subst hx
  by_cases h : i = 0
  · subst h; simp [Addr.add]
  · simp [Addr.add, h]
set_option maxRecDepth 100000 in
theorem dzs_trod {H : Type} {enc : TypeId × Value → H} {W : World} {base : Nat} {spare : Nat → Bool} {held : Bool} {v : Value} {fuel : Nat} {y : DataW H × List MemPlace}
    (hf' : DataW.trod enc Try.prog W base spare held fuel 40 [v] = some y) :
    ∃ (ls : List (List Du)) (a : Option Addr) (cap : Nat), v = .slice a ls.length cap ∧ DzAt W a ls ∧ (ls.length : Int) ≤ 9223372036854775807 ∧ ∀ k, k < ls.length → ((dzAt ls k).length : Int) ≤ 9223372036854775807 := by
  rcases Go.Deep.open_slice1 Try.underlying40 (by kernel_rfl) hf' with ⟨e, _⟩ | ⟨x, len, cap, m, n, V, D, Pl, e, _, hl, hm, hmm, _, hx⟩
  · obtain rfl : v = .slice none 0 0 := by simpa using e
    exact ⟨[], none, 0, rfl, DzAt.nil _ _, by simp, fun k hk => by simp at hk⟩
  · obtain rfl : v = .slice (some x) len cap := by simpa using e
    have hlm : len ≤ m := by rw [hmm]; split <;> omega
    rw [maxLen] at hm
    have hspot : 0 < len → ∃ b off, x = ⟨b, off, none⟩ := by
      intro h0
      have e0 := (hx 0 (by omega)).1
      obtain ⟨b, off, spot⟩ := x
      have hs : spot = none := by simpa [Addr.add] using World.cell?_spot (w := W) (a := (⟨b, off, spot⟩ : Addr)) (v := V 0) (by simpa [Addr.add] using e0)
      exact ⟨b, off, by rw [hs]⟩
    have each : ∀ i, i < len → ∃ q : List Du, ∃ b off ak ck, x = ⟨b, off, none⟩ ∧ b < W.heap.size ∧ W.cell? ⟨b, off + i, none⟩ = some (.slice ak q.length ck) ∧ DusAt W ak q ∧ (q.length ≤ ck ∧ (ak = none → ck = 0)) ∧ (q.length : Int) ≤ 9223372036854775807 := by
      intro i hi
      obtain ⟨h1, h2⟩ := hx i (by omega)
      obtain ⟨q, ak, ck, e1, e2, e3, e4⟩ := dus_trod h2
      obtain ⟨b, off, rfl⟩ := hspot (by omega)
      rw [dzAddr b off i _ rfl, e1] at h1
      exact ⟨q, b, off, ak, ck, rfl, World.block_lt_of_cell? _ _ h1, h1, e2, e4, e3⟩
    haveI : Inhabited (List Du) := ⟨[]⟩
    obtain ⟨f, hff⟩ := Go.Deep.choose_lt each
    have hlen : ((List.range len).map f).length = len := by simp
    have hr : ∀ k, k < len → dzAt ((List.range len).map f) k = f k := fun k hk => by simp [dzAt, hk]
    refine ⟨(List.range len).map f, some x, cap, by rw [hlen], fun k hk => ?_, by rw [hlen]; omega, fun k hk => ?_⟩
    · rw [hlen] at hk
      obtain ⟨b, off, ak, ck, e1, e2, e3, e4, e5, _⟩ := hff k hk
      rw [hr k hk]
      exact ⟨b, off, ak, ck, by rw [e1], e2, e3, e4, e5⟩
    · rw [hlen] at hk
      obtain ⟨b, off, ak, ck, e1, e2, e3, e4, e5, e6⟩ := hff k hk
      rw [hr k hk]
      exact e6
end Go.Proofs.Ytgimalimfmoilaa

/-
  A record of a number and a list (Wheel) that came in, opened. By the verifier, by program.
-/
namespace Go.Proofs.Ytgimalimfmoilaa
open Go.ChangeShapes Go.WideShapes Go.ChangeAt Go.RowKit

theorem whArray {cs : Array Value} (h : cs.size = 2) : ∃ c0 c1, cs = #[c0, c1] := by
  obtain ⟨l⟩ := cs
  match l, h with
  | [c0, c1], _ => exact ⟨c0, c1, rfl⟩
set_option maxRecDepth 100000 in
theorem wh_open {H : Type} {enc : TypeId × Value → H} {W : World} {x : Reach} {b0 base : Nat} {spare : Nat → Bool} {held : Bool} {v : Value} {d : DataW H} {p : List MemPlace} (hv : Value.okWide Try.prog W x b0 42 v)
    (h : DataW.Trod enc Try.prog W base spare held 42 v d p) : ∃ (r : Wh) (a : Option Addr) (c : Nat), v = r.val a c ∧ DzAt W a r.slots ∧ (r.slots.length : Int) ≤ 9223372036854775807 ∧ ∀ k, k < r.slots.length → ((dzAt r.slots k).length : Int) ≤ 9223372036854775807 := by
  obtain ⟨cs, rfl, hsz⟩ := okWide_struct Try.underlying42 hv
  obtain ⟨c0, c1, rfl⟩ := whArray (hsz.trans (by kernel_rfl))
  obtain ⟨fuel, hf⟩ := h
  have hf' : DataW.trod enc Try.prog W base spare held fuel 42 [c0, c1] = some (d, p) := by simpa [Value.cells] using hf
  obtain ⟨n0, rfl⟩ := int_field Try.underlying42 hf' 0 _ rfl rfl (by kernel_rfl) .i64 Try.underlying2 c0 rfl
  obtain ⟨n1, y, hy⟩ := field_of Try.underlying42 hf' 1 _ rfl rfl (by kernel_rfl) c1 rfl
  obtain ⟨ls, a, c, rfl, h1, h2, h3⟩ := dzs_trod hy
  exact ⟨⟨n0, ls⟩, a, c, rfl, h1, h2, h3⟩
end Go.Proofs.Ytgimalimfmoilaa

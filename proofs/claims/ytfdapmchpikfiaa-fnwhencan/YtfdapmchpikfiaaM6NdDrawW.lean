import Derived.Test.YtfdapmchpikfiaaNdDraw
import Derived.Test.YtfdapmchpikfiaaM5NdDrawF
import Derived.OwnWalk
/-
  The model's drawing of a tree, a node and a size. By the verifier, by program.
-/
namespace Go.Proofs.Ytfdapmchpikfiaa
open Go.RowKit

set_option maxHeartbeats 3200000 in
set_option maxRecDepth 100000 in
theorem dDrawCan {W : World} {ac : Option Addr} {len cap : Nat} (hc : Hid (Code W ac len)) (w : World) (bel : Hid (Below W.heap.size W w)) :
    Calls Try.prog 27 #[.slice ac len cap] w fun e w' => (∃ (v : Value) (l : List Nd) (n : Int) (size : Int), e = .returned (.tuple #[v, .int .i64 n, .int .i64 size]) ∧ NdRow w.heap.size w' v l ∧ l.length ≤ 17 ∧ (0 ≤ n ∧ n ≤ 6) ∧ (-1 ≤ size ∧ size ≤ 60)) ∧ Below w.heap.size w w' := by
  have hle := bel.out.size
  go_enter Try.func27, Try.ntmps27
  go_wp2_with fail
  refine (drawNew hc _ bel).mono ?_
  rintro e w1 ⟨rfl, c1, b1⟩
  have H1 : Hid (Cur W w.heap.size ac len cap w1 ∧ Below w.heap.size w w1 ∧ w.heap.size < w1.heap.size) := ⟨c1, b1, c1.lt⟩
  clear c1 b1
  go_wp2_with fail
  refine (drawTree hc _ H1.out.1).mono ?_
  rintro e w2 ⟨⟨v, l, rfl, r2, hl⟩, c2, k2⟩
  have H2 : Hid (Cur W w.heap.size ac len cap w2 ∧ Below w.heap.size w w2 ∧ w.heap.size < w2.heap.size ∧ NdRow (w.heap.size + 1) w2 v l) := by
    have q1 := H1.out.2.2
    have q2 := k2.size
    exact ⟨c2, bel_two bel.out c2.bel (by omega) fun k hk => (k2.block k (by omega) (by omega)).trans (H1.out.2.1.block k hk), by omega, r2.mono (by omega)⟩
  have HL : Hid (l.length ≤ 17) := hl
  clear r2 hl c2 k2 H1
  go_wp2_with fail
  refine (drawFrom hc (0) 6 (by omega) (by omega) (by omega) _ H2.out.1).mono ?_
  rintro e w3 ⟨⟨n, rfl, n0, n1⟩, c3, k3⟩
  have H3 : Hid (Cur W w.heap.size ac len cap w3 ∧ Below w.heap.size w w3 ∧ w.heap.size < w3.heap.size ∧ NdRow (w.heap.size + 1) w3 v l) := by
    have q1 := H2.out.2.2.1
    have q2 := k3.size
    exact ⟨c3, bel_two bel.out c3.bel (by omega) fun k hk => (k3.block k (by omega) (by omega)).trans (H2.out.2.1.block k hk), by omega, H2.out.2.2.2.carry (fun k hk hlt => k3.block k (by have := (H2.out.2.2.2.lt k hk).1; omega) hlt)⟩
  clear c3 k3 H2
  go_wp2_with fail
  refine (drawFrom hc (-1) 60 (by omega) (by omega) (by omega) _ H3.out.1).mono ?_
  rintro e w4 ⟨⟨size, rfl, size0, size1⟩, c3, k3⟩
  have H4 : Hid (Cur W w.heap.size ac len cap w4 ∧ Below w.heap.size w w4 ∧ w.heap.size < w4.heap.size ∧ NdRow (w.heap.size + 1) w4 v l) := by
    have q1 := H3.out.2.2.1
    have q2 := k3.size
    exact ⟨c3, bel_two bel.out c3.bel (by omega) fun k hk => (k3.block k (by omega) (by omega)).trans (H3.out.2.1.block k hk), by omega, H3.out.2.2.2.carry (fun k hk hlt => k3.block k (by have := (H3.out.2.2.2.lt k hk).1; omega) hlt)⟩
  clear c3 k3 H3
  go_wp2
  go_ret3
  exact ⟨⟨v, l, n, size, rfl, H4.out.2.2.2.mono (by omega), HL.out, ⟨n0, n1⟩, ⟨size0, size1⟩⟩, H4.out.2.1⟩
end Go.Proofs.Ytfdapmchpikfiaa

/-
  The model's drawing for WhenCan. By the verifier, by program.
-/
namespace Go.Proofs.Ytfdapmchpikfiaa
open Go.RowKit

set_option maxHeartbeats 3200000 in
theorem dDrawWhenCan {W : World} {ac : Option Addr} {len cap : Nat} (hc : Hid (Code W ac len)) (w : World) (bel : Hid (Below W.heap.size W w)) :
    Calls Try.prog 20 #[.slice ac len cap] w fun e w' => (∃ (v : Value) (l : List Nd) (n : Int) (size : Int), e = .returned (.tuple #[v, .int .i64 n, .int .i64 size]) ∧ NdRow w.heap.size w' v l ∧ l.length ≤ 17 ∧ (0 ≤ n ∧ n ≤ 6) ∧ (-1 ≤ size ∧ size ≤ 60)) ∧ Below w.heap.size w w' := by
  go_enter Try.func20, Try.ntmps20
  go_wp2_with fail
  refine (dDrawCan hc _ bel).mono ?_
  rintro e w2 ⟨⟨v, l, n, size, rfl, X⟩, b2⟩
  have HX : Hid _ := X
  have HB : Hid _ := b2
  clear X b2
  go_wp2
  go_ret3
  exact ⟨⟨v, l, n, size, rfl, HX.out⟩, HB.out⟩
end Go.Proofs.Ytfdapmchpikfiaa

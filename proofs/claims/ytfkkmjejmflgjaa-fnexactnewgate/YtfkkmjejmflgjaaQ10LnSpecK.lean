/-
  The walks of the model's chapter 7: LineOk, what a line carries. By the verifier.
-/
import Derived.Test.YtfkkmjejmflgjaaQ0SrPlain
import Derived.Test.YtfkkmjejmflgjaaQ3RtNet
import Derived.Handy
namespace Go.Proofs.Ytfkkmjejmflgjaa
open Go.RowKit

theorem specMax (a b : Int) (w : World) :
    Calls Try.prog 76 #[.int .i64 a, .int .i64 b] w fun e w' => e = .returned (.int .i64 (if b < a then a else b)) ∧ w' = w := by
  by_cases h : b < a
  · rw [if_pos h]
    go_enter Try.func76, Try.ntmps76
    go_wp2
    go_ret
    exact ⟨rfl, rfl⟩
  · rw [if_neg h]
    go_enter Try.func76, Try.ntmps76
    go_wp2
    go_ret
    exact ⟨rfl, rfl⟩

set_option maxHeartbeats 1600000 in
theorem specLineOk (l : Ln) (w : World) :
    Calls Try.prog 45 #[l.val] w fun e w' => e = .returned (.bool l.ok) ∧ w' = w.alloc (.cells l.cells.toArray 27) := by
  have Hok : Hid (l.ok = (inB 1 3 l.kind && (inB 0 100 l.extra && inB 0 2000 l.least))) := rfl
  obtain ⟨k, x, m⟩ := l
  generalize Ln.ok _ = ok at Hok ⊢
  simp only [Ln.val, Ln.cells] at Hok ⊢
  have A1 := fun w => specIn k 1 3 w
  have A2 := fun w => specIn x 0 100 w
  have A3 := fun w => specIn m 0 2000 w
  generalize inB 1 3 k = b1 at A1 Hok
  generalize inB 0 100 x = b2 at A2 Hok
  generalize inB 0 2000 m = b3 at A3 Hok
  have A1' : Hid _ := A1
  have A2' : Hid _ := A2
  have A3' : Hid _ := A3
  clear A1 A2 A3
  go_enter Try.func45, Try.ntmps45
  go_wp2_with fail
  refine (A1'.out _).mono ?_
  rintro e w' ⟨rfl, rfl⟩
  cases b1
  · go_wp2
    go_ret
    exact ⟨ret_bool (by rw [Hok.out]; rfl), rfl⟩
  go_wp2_with fail
  refine (A2'.out _).mono ?_
  rintro e w' ⟨rfl, rfl⟩
  cases b2
  · go_wp2
    go_ret
    exact ⟨ret_bool (by rw [Hok.out]; rfl), rfl⟩
  go_wp2_with fail
  refine (A3'.out _).mono ?_
  rintro e w' ⟨rfl, rfl⟩
  go_wp2
  go_ret
  exact ⟨ret_bool (by rw [Hok.out]; rfl), rfl⟩

set_option maxHeartbeats 1600000 in
theorem specTakes (l : Ln) (n : Int) (hok : l.ok = true) (n0 : 0 ≤ n) (n1 : n ≤ 100000) (w : World) :
    Calls Try.prog 53 #[l.val, .int .i64 n] w fun e w' => e = .returned (.int .i64 (l.takes n)) ∧ w' = w.alloc (.cells l.cells.toArray 27) := by
  have C := fun w => specMax l.least (n + l.extra) w
  have hc0 := (carry_le hok n).1
  have hc1 := carry_most hok n1
  have Ht : Hid (l.takes n = takeK l.kind (l.carry n)) := rfl
  have Hk : Hid (∀ c, takeK l.kind c = if l.kind = 2 then (c + 47) / 48 * 53 else if l.kind = 3 then c + (c + 63) / 64 else c) := fun _ => rfl
  have ho := Ln.ok_iff.1 hok
  obtain ⟨⟨k0, k1⟩, ⟨x0, x1⟩, m0, m1⟩ := ho
  rw [show (if n + l.extra < l.least then l.least else n + l.extra) = l.carry n from rfl] at C
  generalize l.takes n = t at Ht ⊢
  generalize l.carry n = c at C hc0 hc1 Ht
  clear hok
  obtain ⟨k, x, m⟩ := l
  simp only [Ln.val, Ln.cells] at *
  have C' : Hid _ := C
  clear C
  go_enter Try.func53, Try.ntmps53
  go_wp2_with fail
  refine (C'.out _).mono ?_
  rintro e w' ⟨rfl, rfl⟩
  by_cases h2 : k = 2
  · subst h2
    go_wp2
    go_ret
    exact ⟨ret_num (by rw [Ht.out, Hk.out]; rfl), rfl⟩
  by_cases h3 : k = 3
  · subst h3
    go_wp2
    go_ret
    exact ⟨ret_num (by rw [Ht.out, Hk.out]; rfl), rfl⟩
  go_wp2
  go_ret
  exact ⟨ret_num (by rw [Ht.out, Hk.out, if_neg h2, if_neg h3]), rfl⟩

end Go.Proofs.Ytfkkmjejmflgjaa

import Derived.Test.YtgebghkcikmfaaaGreatDoorQJ3SrPlain
import Derived.Test.YtgebghkcikmfaaaGreatDoorQJ0NumUp
import Derived.Handy
import Derived.BigQuiet
/-
  The walks of the program's chapter 7: LineOk, OnLine, OffLine. By the verifier.
-/
namespace Go.Proofs.YtgebghkcikmfaaaGreatDoor
open Go.RowKit

theorem lnKind (k : Int) : inB 1 3 k = (decide (1 ≤ k) && inB 0 3 k) := by
  rw [Bool.eq_iff_iff]
  simp [inB]
  omega

set_option maxHeartbeats 1600000 in
theorem implLineOk (l : Ln) (w : World) :
    Calls Tryz.prog 149 #[l.val] w fun e w' => e = .returned (.bool l.ok) ∧ Below w.heap.size w w' := by
  have Hok : Hid (l.ok = ((decide (1 ≤ l.kind) && inB 0 3 l.kind) && (inB 0 100 l.extra && inB 0 2000 l.least))) := by
    show l.ok = _
    rw [← lnKind]; rfl
  obtain ⟨k, x, m⟩ := l
  generalize Ln.ok _ = ok at Hok ⊢
  simp only [Ln.val] at Hok ⊢
  have A1 := fun w B h => implUpTo1 3 k w B h
  have A2 := fun w B h => implUpTo1 100 x w B h
  have A3 := fun w B h => implUpTo1 2000 m w B h
  generalize inB 0 3 k = b1 at A1 Hok
  generalize inB 0 100 x = b2 at A2 Hok
  generalize inB 0 2000 m = b3 at A3 Hok
  have A1' : Hid _ := A1
  have A2' : Hid _ := A2
  have A3' : Hid _ := A3
  clear A1 A2 A3
  by_cases h1 : 1 ≤ k
  · have hd : decide (1 ≤ k) = true := by simp [h1]
    rw [hd] at Hok
    clear hd
    go_enter Tryz.func149, Tryz.ntmps149
    go_wp2_with fail
    refine (A1'.out _ _ (by simp)).mono ?_
    rintro e w' ⟨rfl, rfl⟩
    cases b1
    · go_wp2
      go_ret
      exact ⟨ret_bool (by rw [Hok.out]; rfl), by repeat (first | exact Below.refl _ _ | refine Below.alloc ?_ (by simp <;> omega) _)⟩
    go_wp2_with fail
    refine (A2'.out _ _ (by simp)).mono ?_
    rintro e w' ⟨rfl, rfl⟩
    cases b2
    · go_wp2
      go_ret
      exact ⟨ret_bool (by rw [Hok.out]; rfl), by repeat (first | exact Below.refl _ _ | refine Below.alloc ?_ (by simp <;> omega) _)⟩
    go_wp2_with fail
    refine (A3'.out _ _ (by simp)).mono ?_
    rintro e w' ⟨rfl, rfl⟩
    go_wp2
    go_ret
    exact ⟨ret_bool (by rw [Hok.out]; rfl), by repeat (first | exact Below.refl _ _ | refine Below.alloc ?_ (by simp <;> omega) _)⟩
  · have hd : decide (1 ≤ k) = false := by simp; omega
    rw [hd] at Hok
    clear hd
    go_enter Tryz.func149, Tryz.ntmps149
    go_wp2
    go_ret
    exact ⟨ret_bool (by rw [Hok.out]; rfl), by repeat (first | exact Below.refl _ _ | refine Below.alloc ?_ (by simp <;> omega) _)⟩

end Go.Proofs.YtgebghkcikmfaaaGreatDoor

/-
  The walks of the program's begun and takenBy. By the verifier.
-/
namespace Go.Proofs.YtgebghkcikmfaaaGreatDoor
open Go.RowKit

theorem implBegun (c p : Int) (hp : p = 48 ∨ p = 64) (c0 : 0 ≤ c) (c1 : c ≤ 100100) (w : World) :
    Calls Tryz.prog 249 #[.int .i64 c, .int .i64 p] w fun e w' => e = .returned (.int .i64 ((c + (p - 1)) / p)) ∧ w' = w := by
  rcases hp with rfl | rfl
  · go_enter Tryz.func249, Tryz.ntmps249
    go_wp2
    go_ret
    exact ⟨ret_num (by omega), rfl⟩
  · go_enter Tryz.func249, Tryz.ntmps249
    go_wp2
    go_ret
    exact ⟨ret_num (by omega), rfl⟩

set_option maxHeartbeats 1600000 in
theorem implTakes (l : Ln) (n : Int) (hok : l.ok = true) (n0 : 0 ≤ n) (n1 : n ≤ 100000) (w : World) :
    Calls Tryz.prog 195 #[l.val, .int .i64 n] w fun e w' => e = .returned (.int .i64 (l.takes n)) ∧ w' = w.alloc (.cells l.cells.toArray 38) := by
  have hc0 := (carry_le hok n).1
  have hc1 := carry_most hok n1
  have D1 := fun w => implBegun (l.carry n) 48 (.inl rfl) hc0 hc1 w
  have D2 := fun w => implBegun (l.carry n) 64 (.inr rfl) hc0 hc1 w
  have Ht : Hid (l.takes n = takeK l.kind (l.carry n)) := rfl
  have Hk : Hid (∀ c, takeK l.kind c = if l.kind = 2 then (c + 47) / 48 * 53 else if l.kind = 3 then c + (c + 63) / 64 else c) := fun _ => rfl
  have ho := Ln.ok_iff.1 hok
  obtain ⟨⟨k0, k1⟩, ⟨x0, x1⟩, m0, m1⟩ := ho
  have Hc : Hid (l.carry n = if n + l.extra < l.least then l.least else n + l.extra) := rfl
  generalize l.takes n = t at Ht ⊢
  generalize l.carry n = c at D1 D2 hc0 hc1 Ht Hc
  clear hok
  obtain ⟨k, x, m⟩ := l
  simp only [Ln.val, Ln.cells] at *
  have D1' : Hid _ := D1
  have D2' : Hid _ := D2
  clear D1 D2
  by_cases hlt : n + x < m
  · obtain rfl : m = c := by rw [Hc.out, if_pos hlt]
    by_cases h2 : k = 2
    · subst h2
      go_enter Tryz.func195, Tryz.ntmps195
      go_wp2_with fail
      refine (D1'.out _).mono ?_
      rintro e w' ⟨rfl, rfl⟩
      go_wp2
      go_ret
      exact ⟨ret_num (by rw [Ht.out, Hk.out]; simp; omega), rfl⟩
    by_cases h3 : k = 3
    · subst h3
      go_enter Tryz.func195, Tryz.ntmps195
      go_wp2_with fail
      refine (D2'.out _).mono ?_
      rintro e w' ⟨rfl, rfl⟩
      go_wp2
      go_ret
      exact ⟨ret_num (by rw [Ht.out, Hk.out]; simp; omega), rfl⟩
    obtain rfl : 1 = k := by omega
    go_enter Tryz.func195, Tryz.ntmps195
    go_wp2
    go_ret
    exact ⟨ret_num (by rw [Ht.out, Hk.out]; simp), rfl⟩
  · obtain ⟨s, hs⟩ : ∃ s, s = n + x := ⟨_, rfl⟩
    obtain rfl : n + x = c := by rw [Hc.out, if_neg hlt]
    by_cases h2 : k = 2
    · subst h2
      go_enter Tryz.func195, Tryz.ntmps195
      go_wp2_with fail
      refine (D1'.out _).mono ?_
      rintro e w' ⟨rfl, rfl⟩
      go_wp2
      go_ret
      exact ⟨ret_num (by rw [Ht.out, Hk.out]; simp; omega), rfl⟩
    by_cases h3 : k = 3
    · subst h3
      go_enter Tryz.func195, Tryz.ntmps195
      go_wp2_with fail
      refine (D2'.out _).mono ?_
      rintro e w' ⟨rfl, rfl⟩
      go_wp2
      go_ret
      exact ⟨ret_num (by rw [Ht.out, Hk.out]; simp; omega), rfl⟩
    obtain rfl : 1 = k := by omega
    go_enter Tryz.func195, Tryz.ntmps195
    go_wp2
    go_ret
    exact ⟨ret_num (by rw [Ht.out, Hk.out]; simp), rfl⟩
end Go.Proofs.YtgebghkcikmfaaaGreatDoor

/-
  The walks of the program's OnLine. By the verifier.
-/
namespace Go.Proofs.YtgebghkcikmfaaaGreatDoor
open Go.RowKit

set_option maxHeartbeats 1600000 in
theorem implOn (l : Ln) (n : Int) (w : World) :
    Calls Tryz.prog 132 #[l.val, .int .i64 n] w fun e w' => e = .returned (.int .i64 (l.on n)) ∧ Below w.heap.size w w' := by
  have Hon : Hid (l.on n = if (l.ok && inB 0 100000 n) = true then l.takes n else -1) := rfl
  have A1 := fun w => implLineOk l w
  have A2 := fun w B h => implUpTo1 100000 n w B h
  have A3 := fun (h : (l.ok && inB 0 100000 n) = true) (w : World) => implTakes l n (Bool.and_eq_true_iff.1 h).1 (inB_true.1 (Bool.and_eq_true_iff.1 h).2).1 (inB_true.1 (Bool.and_eq_true_iff.1 h).2).2 w
  generalize l.on n = v at Hon ⊢
  generalize l.takes n = t at A3 Hon
  generalize l.ok = b1 at A1 A3 Hon
  generalize inB 0 100000 n = b2 at A2 A3 Hon
  obtain ⟨k, x, m⟩ := l
  simp only [Ln.val, Ln.cells] at *
  have A1' : Hid _ := A1
  have A2' : Hid _ := A2
  have A3' : Hid _ := A3
  clear A1 A2 A3
  have X : Hid (Boxed (w.alloc (.cells #[.int .i64 k, .int .i64 x, .int .i64 m] 38)) w.heap.size #[.int .i64 k, .int .i64 x, .int .i64 m] 38 ∧ Below w.heap.size w (w.alloc (.cells #[.int .i64 k, .int .i64 x, .int .i64 m] 38))) :=
    ⟨Boxed.new _ _ _, (Below.refl _ _).alloc (Nat.le_refl _) _⟩
  go_enter Tryz.func132, Tryz.ntmps132
  go_wp2_with fail
  refine (A1'.out _).mono ?_
  rintro e w1 ⟨rfl, q⟩
  have X1 : Hid (Boxed w1 w.heap.size #[.int .i64 k, .int .i64 x, .int .i64 m] 38 ∧ Below w.heap.size w w1) := ⟨X.out.1.below X.out.1.under q, X.out.2.trans (q.mono X.out.2.size)⟩
  clear q X
  have c0 : w1.cell? ⟨w.heap.size, 0, none⟩ = some (.int .i64 k) := X1.out.1.cell 0 rfl
  have c1 : w1.cell? ⟨w.heap.size, 1, none⟩ = some (.int .i64 x) := X1.out.1.cell 1 rfl
  have c2 : w1.cell? ⟨w.heap.size, 2, none⟩ = some (.int .i64 m) := X1.out.1.cell 2 rfl
  have hlt : w.heap.size < w1.heap.size := X1.out.1.under
  cases b1
  · go_wp2
    go_ret
    exact ⟨ret_num (by rw [Hon.out]; rfl), X1.out.2⟩
  go_wp2_with fail
  refine (A2'.out _ _ (by simp)).mono ?_
  rintro e w2 ⟨rfl, rfl⟩
  cases b2
  · go_wp2
    go_ret
    exact ⟨ret_num (by rw [Hon.out]; rfl), X1.out.2.alloc (by omega) _⟩
  go_wp2_with fail
  refine (A3'.out rfl _).mono ?_
  rintro e w' ⟨rfl, rfl⟩
  go_wp2
  go_ret
  exact ⟨ret_num (by rw [Hon.out]; rfl), (X1.out.2.alloc (by omega) _).alloc (by simp; omega) _⟩
end Go.Proofs.YtgebghkcikmfaaaGreatDoor

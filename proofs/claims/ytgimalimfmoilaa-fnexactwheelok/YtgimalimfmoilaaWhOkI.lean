/-
  The walks of the program's slotOf and WheelOk. By the verifier.
-/
import Derived.Test.YtgimalimfmoilaaWhAll
import Derived.Test.YtgimalimfmoilaaWhFn
import Derived.Test.YtgimalimfmoilaaDuHpI
namespace Go.Proofs.Ytgimalimfmoilaa
open Go.RowKit Go.Shelf

set_option maxHeartbeats 1600000 in
theorem implSlot (step : Int) (d : Du) (w : World) (hs : 1 ≤ step ∧ step ≤ 1000) (hd : d.ok = true) :
    Calls Try.prog 53 #[.int .i64 step, d.val] w fun e w' => e = .returned (.int .i64 (slot step d)) ∧ Below w.heap.size w w' := by
  obtain ⟨t, i⟩ := d
  have ht : 0 ≤ t ∧ t ≤ 1099511627776 := by
    unfold Du.ok at hd
    rw [Bool.and_eq_true, inB_true] at hd
    exact hd.1
  simp only [Du.val]
  obtain ⟨q, hq⟩ : ∃ q, q = t / step := ⟨_, rfl⟩
  have hq0 : 0 ≤ q := by rw [hq]; exact Int.ediv_nonneg ht.1 (by omega)
  have hq1 : q ≤ 1099511627776 := by rw [hq]; exact Int.le_trans (Int.ediv_le_self _ ht.1) ht.2
  have e1 : t.tdiv step = q := by rw [hq]; exact Int.tdiv_eq_ediv_of_nonneg ht.1
  have e2 : q.tmod 8 = q % 8 := Int.tmod_eq_emod_of_nonneg hq0
  have e3 : ¬ step = 0 := by omega
  have e4 : (step == 0) = false := by simpa using e3
  have e5 : ¬ step = -1 := by omega
  have hr : Hid (slot step ⟨t, i⟩ = q % 8) := by show (t / step) % 8 = q % 8; rw [hq]
  have hm : 0 ≤ q % 8 ∧ q % 8 < 8 := ⟨Int.emod_nonneg _ (by decide), Int.emod_lt_of_pos _ (by decide)⟩
  rw [hr.out]
  generalize q % 8 = m at e2 hm
  have B : Hid (Below w.heap.size w (w.alloc (.cells #[.int .i64 t, .int .i64 i] 33))) := (Below.refl _ _).alloc (Nat.le_refl _) _
  clear hq hr hd
  go_enter Try.func53, Try.ntmps53
  go_wp2
  go_ret
  exact ⟨rfl, B.out⟩
end Go.Proofs.Ytgimalimfmoilaa

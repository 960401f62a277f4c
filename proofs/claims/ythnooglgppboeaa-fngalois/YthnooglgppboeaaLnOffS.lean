/-
  The walk of the model's OffLine. By the verifier.
-/
import Derived.Test.YthnooglgppboeaaLnSpec
import Derived.Test.YthnooglgppboeaaBoxed
namespace Go.Proofs.Ythnooglgppboeaa
open Go.RowKit




set_option maxHeartbeats 3200000 in
theorem specOff (l : Ln) (room : Int) (w : World) :
    Calls Try.prog 10 #[l.val, .int .i64 room] w fun e w' => (∃ r, e = .returned (.int .i64 r) ∧ Off l room r) ∧ Below w.heap.size w w' := by
  have A1 := fun w => (specLineOk l w).mono (R' := fun e w' => e = .returned (.bool l.ok) ∧ Below w.heap.size w w') fun _ _ h => ⟨h.1, by rw [h.2]; exact (Below.refl _ _).alloc (Nat.le_refl _) _⟩
  have A2 := fun w => specIn room 0 100000 w
  have A3 := fun (h : (l.ok && inB 0 100000 room) = true) n n0 n1 (w : World) => (specTakes l n (Bool.and_eq_true_iff.1 h).1 n0 n1 w).mono (R' := fun e w' => e = .returned (.int .i64 (l.takes n)) ∧ Below w.heap.size w w') fun _ _ h => ⟨h.1, by rw [h.2]; exact (Below.refl _ _).alloc (Nat.le_refl _) _⟩
  have Hr : Hid (l.room room = ((l.ok && inB 0 100000 room) && decide (l.takes 0 ≤ room))) := rfl
  have No : Hid (l.room room = false → Off l room (-1)) := off_no
  have Yes : Hid (∀ r, l.room room = true → Great l room r → Off l room r) := fun r => off_ok
  have Ms : Hid (l.takes 0 ≤ room → Amid l room 0 100000) := amid_start
  have Mu : Hid (∀ lo hi m, Amid l room lo hi → l.takes m ≤ room → Amid l room m hi) := fun _ _ _ => amid_up
  have Md : Hid (∀ lo hi m, Amid l room lo hi → room < l.takes m → Amid l room lo (m - 1)) := fun _ _ _ => amid_down
  have Me : Hid (∀ lo hi, Amid l room lo hi → 0 ≤ lo → lo ≤ hi → hi ≤ 100000 → hi ≤ lo → Great l room lo) := fun _ _ => amid_end
  generalize l.room room = rm at Hr No Yes
  generalize l.takes = T at A3 Hr Ms Mu Md
  generalize l.ok = b1 at A1 A3 Hr
  generalize inB 0 100000 room = b2 at A2 A3 Hr
  generalize Off l room = OFF at No Yes ⊢
  generalize Great l room = GR at Yes Me
  generalize Amid l room = AM at Ms Mu Md Me
  obtain ⟨k, x, m⟩ := l
  simp only [Ln.val] at *
  have A1' : Hid _ := A1
  have A2' : Hid _ := A2
  have A3' : Hid _ := A3
  clear A1 A2 A3
  have X : Hid (Boxed (w.alloc (.cells #[.int .i64 k, .int .i64 x, .int .i64 m] 25)) w.heap.size #[.int .i64 k, .int .i64 x, .int .i64 m] 25 ∧ Below w.heap.size w (w.alloc (.cells #[.int .i64 k, .int .i64 x, .int .i64 m] 25))) :=
    ⟨Boxed.new _ _ _, (Below.refl _ _).alloc (Nat.le_refl _) _⟩
  go_enter Try.func10, Try.ntmps10
  go_wp2_with fail
  refine (A1'.out _).mono ?_
  rintro e w1 ⟨rfl, q⟩
  have X1 : Hid (Boxed w1 w.heap.size #[.int .i64 k, .int .i64 x, .int .i64 m] 25 ∧ Below w.heap.size w w1) := ⟨X.out.1.below X.out.1.under q, X.out.2.trans (q.mono X.out.2.size)⟩
  clear q X
  have c0 : w1.cell? ⟨w.heap.size, 0, none⟩ = some (.int .i64 k) := X1.out.1.cell 0 rfl
  have c1 : w1.cell? ⟨w.heap.size, 1, none⟩ = some (.int .i64 x) := X1.out.1.cell 1 rfl
  have c2 : w1.cell? ⟨w.heap.size, 2, none⟩ = some (.int .i64 m) := X1.out.1.cell 2 rfl
  cases b1
  · go_wp2
    go_ret
    exact ⟨⟨_, rfl, No.out (by rw [Hr.out]; rfl)⟩, X1.out.2⟩
  go_wp2_with fail
  refine (A2'.out _).mono ?_
  rintro e w2 ⟨rfl, rfl⟩
  cases b2
  · go_wp2
    go_ret
    exact ⟨⟨_, rfl, No.out (by rw [Hr.out]; rfl)⟩, X1.out.2⟩
  go_wp2_with fail
  refine (A3'.out rfl 0 (by omega) (by omega) _).mono ?_
  rintro e w3 ⟨rfl, q⟩
  have X3 : Hid (Boxed w3 w.heap.size #[.int .i64 k, .int .i64 x, .int .i64 m] 25 ∧ Below w.heap.size w w3) := ⟨X1.out.1.below X1.out.1.under q, X1.out.2.trans (q.mono X1.out.2.size)⟩
  clear q c0 c1 c2 X1
  by_cases h0 : T 0 ≤ room
  · have Hrm : Hid (rm = true) := by show rm = true; rw [Hr.out]; simp [h0]
    have Hs : Hid (AM 0 100000) := Ms.out h0
    clear Hr No Ms
    have h0' : ¬ room < T 0 := by omega
    clear h0
    generalize T 0 = t0 at h0' ⊢
    go_wp2
    clear h0'
    go_loopw [5, 6] (fun s t wr => ∃ lo hi : Int, 0 ≤ lo ∧ lo ≤ hi ∧ hi ≤ 100000 ∧ s = .int .i64 lo ∧ t = .int .i64 hi ∧ Hid (AM lo hi ∧ Boxed wr w.heap.size #[.int .i64 k, .int .i64 x, .int .i64 m] 25 ∧ Below w.heap.size w wr)) (fun s t _ => (intOf t - intOf s).toNat)
    case atStart => exact ⟨0, 100000, by omega, by omega, by omega, rfl, rfl, Hs.out, X3.out⟩
    case round =>
      obtain ⟨lo, hi, l0, lh, h1, rfl, rfl, Hb⟩ := hrel
      clear Hs
      have d0 : wr.cell? ⟨w.heap.size, 0, none⟩ = some (.int .i64 k) := Hb.out.2.1.cell 0 rfl
      have d1 : wr.cell? ⟨w.heap.size, 1, none⟩ = some (.int .i64 x) := Hb.out.2.1.cell 1 rfl
      have d2 : wr.cell? ⟨w.heap.size, 2, none⟩ = some (.int .i64 m) := Hb.out.2.1.cell 2 rfl
      by_cases hlt : lo < hi
      · have m0 : 0 ≤ (lo + hi + 1) / 2 := by omega
        have m1 : lo < (lo + hi + 1) / 2 := by omega
        have m2 : (lo + hi + 1) / 2 ≤ hi := by omega
        go_wp2_with fail
        refine (A3'.out rfl ((lo + hi + 1) / 2) m0 (by omega) _).mono ?_
        rintro e w1 ⟨rfl, q⟩
        have X4 : Hid (Boxed w1 w.heap.size #[.int .i64 k, .int .i64 x, .int .i64 m] 25 ∧ Below w.heap.size w w1) := ⟨Hb.out.2.1.below Hb.out.2.1.under q, Hb.out.2.2.trans (q.mono Hb.out.2.2.size)⟩
        clear q d0 d1 d2
        by_cases hf : T ((lo + hi + 1) / 2) ≤ room
        · have Hf : Hid (T ((lo + hi + 1) / 2) ≤ room) := hf
          go_wp2
          go_round
          case rel => exact ⟨_, _, m0, m2, h1, rfl, rfl, Mu.out _ _ _ Hb.out.1 Hf.out, X4.out⟩
          case measure => simp only [intOf]; omega
        · have Hf : Hid (room < T ((lo + hi + 1) / 2)) := by show room < _; omega
          go_wp2
          go_round
          case rel => exact ⟨_, _, l0, by omega, by omega, rfl, rfl, Md.out _ _ _ Hb.out.1 Hf.out, X4.out⟩
          case measure => simp only [intOf]; omega
      · go_wp2
        go_ret
        exact ⟨⟨_, rfl, Yes.out _ Hrm.out (Me.out _ _ Hb.out.1 l0 lh h1 (by omega))⟩, Hb.out.2.2⟩
  · have Hrm : Hid (rm = false) := by show rm = false; rw [Hr.out]; simp; omega
    have h0' : room < T 0 := by omega
    clear h0 Hr
    generalize T 0 = t0 at h0' ⊢
    go_wp2
    go_ret
    exact ⟨⟨_, rfl, No.out Hrm.out⟩, X3.out.2⟩
end Go.Proofs.Ythnooglgppboeaa

/-
  The walks of the program's OnLine and OffLine. By the verifier.
-/
import Derived.Test.YthnooglgppboeaaLnImpl
import Derived.BigQuiet
namespace Go.Proofs.Ythnooglgppboeaa
open Go.RowKit

set_option maxHeartbeats 1600000 in
theorem implOn (l : Ln) (n : Int) (w : World) :
    Calls Try.prog 6 #[l.val, .int .i64 n] w fun e w' => e = .returned (.int .i64 (l.on n)) ∧ Below w.heap.size w w' := by
  have Hon : Hid (l.on n = if (l.ok && inB 0 100000 n) = true then l.takes n else -1) := rfl
  have A1 := fun w => implLineOk l w
  have A2 := fun w B h => implUpTo1 100000 n w B h
  have A3 := fun (h : (l.ok && inB 0 100000 n) = true) (w : World) => implTakes l n (Bool.and_eq_true_iff.1 h).1 (inB_true.1 (Bool.and_eq_true_iff.1 h).2).1 (inB_true.1 (Bool.and_eq_true_iff.1 h).2).2 w
  generalize l.on n = v at Hon ⊢
  generalize l.takes n = t at A3 Hon
  generalize l.ok = b1 at A1 A3 Hon
  generalize inB 0 100000 n = b2 at A2 A3 Hon
  obtain ⟨k, x, m⟩ := l
  simp only [Ln.val, Ln.cells] at *
  have A1' : Hid _ := A1
  have A2' : Hid _ := A2
  have A3' : Hid _ := A3
  clear A1 A2 A3
  have X : Hid (Boxed (w.alloc (.cells #[.int .i64 k, .int .i64 x, .int .i64 m] 25)) w.heap.size #[.int .i64 k, .int .i64 x, .int .i64 m] 25 ∧ Below w.heap.size w (w.alloc (.cells #[.int .i64 k, .int .i64 x, .int .i64 m] 25))) :=
    ⟨Boxed.new _ _ _, (Below.refl _ _).alloc (Nat.le_refl _) _⟩
  go_enter Try.func6, Try.ntmps6
  go_wp2_with fail
  refine (A1'.out _).mono ?_
  rintro e w1 ⟨rfl, q⟩
  have X1 : Hid (Boxed w1 w.heap.size #[.int .i64 k, .int .i64 x, .int .i64 m] 25 ∧ Below w.heap.size w w1) := ⟨X.out.1.below X.out.1.under q, X.out.2.trans (q.mono X.out.2.size)⟩
  clear q X
  have c0 : w1.cell? ⟨w.heap.size, 0, none⟩ = some (.int .i64 k) := X1.out.1.cell 0 rfl
  have c1 : w1.cell? ⟨w.heap.size, 1, none⟩ = some (.int .i64 x) := X1.out.1.cell 1 rfl
  have c2 : w1.cell? ⟨w.heap.size, 2, none⟩ = some (.int .i64 m) := X1.out.1.cell 2 rfl
  have hlt : w.heap.size < w1.heap.size := X1.out.1.under
  cases b1
  · go_wp2
    go_ret
    exact ⟨ret_num (by rw [Hon.out]; rfl), X1.out.2⟩
  go_wp2_with fail
  refine (A2'.out _ _ (by simp)).mono ?_
  rintro e w2 ⟨rfl, rfl⟩
  cases b2
  · go_wp2
    go_ret
    exact ⟨ret_num (by rw [Hon.out]; rfl), X1.out.2.alloc (by omega) _⟩
  go_wp2_with fail
  refine (A3'.out rfl _).mono ?_
  rintro e w' ⟨rfl, rfl⟩
  go_wp2
  go_ret
  exact ⟨ret_num (by rw [Hon.out]; rfl), (X1.out.2.alloc (by omega) _).alloc (by simp; omega) _⟩

/-- Whether n fits, as the function that is handed on tells it. -/
theorem implFits (l : Ln) (room n : Int) (hok : l.ok = true) (n0 : 0 ≤ n) (n1 : n ≤ 100000) (B C : Nat) (w : World) (hB : Hid (Boxed w B l.cells.toArray 25)) (hC : Hid (Boxed w C #[.int .i64 room] 2)) :
    Calls Try.prog 19 #[.int .i64 n, .pointer (some ⟨B, 0, none⟩), .pointer (some ⟨C, 0, none⟩)] w fun e w' => e = .returned (.bool (decide (l.takes n ≤ room))) ∧ Below w.heap.size w w' := by
  have D := fun w => (implTakes l n hok n0 n1 w).mono (R' := fun e w' => e = .returned (.int .i64 (l.takes n)) ∧ Below w.heap.size w w') fun _ _ h => ⟨h.1, by rw [h.2]; exact (Below.refl _ _).alloc (Nat.le_refl _) _⟩
  generalize l.takes n = t at D ⊢
  clear hok n0 n1
  obtain ⟨k, x, m⟩ := l
  simp only [Ln.val, Ln.cells] at *
  have D' : Hid _ := D
  clear D
  have c0 : ∀ p : BelW w.heap.size w, p.w'.cell? ⟨B, 0, none⟩ = some (.int .i64 k) := fun p => (hB.out.below hB.out.under p.h).cell 0 rfl
  have c1 : ∀ p : BelW w.heap.size w, p.w'.cell? ⟨B, 1, none⟩ = some (.int .i64 x) := fun p => (hB.out.below hB.out.under p.h).cell 1 rfl
  have c2 : ∀ p : BelW w.heap.size w, p.w'.cell? ⟨B, 2, none⟩ = some (.int .i64 m) := fun p => (hB.out.below hB.out.under p.h).cell 2 rfl
  have c3 : ∀ p : BelW w.heap.size w, p.w'.cell? ⟨C, 0, none⟩ = some (.int .i64 room) := fun p => (hC.out.below hC.out.under p.h).cell 0 rfl
  haveI : Nonempty (BelW w.heap.size w) := ⟨⟨w, Below.refl _ _⟩⟩
  go_enter Try.func19, Try.ntmps19
  go_wp2_with fail
  refine region_below w.heap.size (by kernel_rfl) (by kernel_rfl) ?_
  repeat (go_big_quiet_step ((go_at_call 18; refine quiet_below (Nat.le_refl _) (D'.out _))))
  refine wpQuiet_nil ?_
  intro wq hx
  have HQ : Hid (Below w.heap.size w wq) := BelW.out hx
  clear hx c0 c1 c2 c3
  go_wp2
  go_ret
  exact ⟨rfl, HQ.out⟩

set_option maxHeartbeats 1600000 in
theorem implGreat (l : Ln) (room : Int) (hok : l.ok = true) (h0 : l.takes 0 ≤ room) (B C : Nat) (w : World) (hB : Hid (Boxed w B l.cells.toArray 25)) (hC : Hid (Boxed w C #[.int .i64 room] 2)) :
    Calls Try.prog 20 #[.int .i64 100000, .func (.func 19) #[] #[.pointer (some ⟨B, 0, none⟩), .pointer (some ⟨C, 0, none⟩)]] w fun e w' => (∃ r, e = .returned (.int .i64 r) ∧ Great l room r) ∧ Below w.heap.size w w' := by
  have F := fun n n0 n1 w hB hC => implFits l room n hok n0 n1 B C w hB hC
  have F' : Hid _ := F
  have Hs : Hid (Amid l room 0 100000) := amid_start h0
  clear F hok h0
  go_enter Try.func20, Try.ntmps20
  go_wp2_with fail
  go_loopw [5, 6] (fun s t wr => ∃ lo hi : Int, 0 ≤ lo ∧ lo ≤ hi ∧ hi ≤ 100000 ∧ s = .int .i64 lo ∧ t = .int .i64 hi ∧ Hid (Amid l room lo hi ∧ Below w.heap.size w wr)) (fun s t _ => (intOf t - intOf s).toNat)
  case atStart => exact ⟨0, 100000, by omega, by omega, by omega, rfl, rfl, Hs.out, Below.refl _ _⟩
  case round =>
    obtain ⟨lo, hi, l0, lh, h1, rfl, rfl, Hb⟩ := hrel
    clear Hs
    by_cases hlt : lo < hi
    · obtain ⟨mid, hm⟩ : ∃ mid, mid = (lo + hi + 1) / 2 := ⟨_, rfl⟩
      have m0 : 0 ≤ (lo + hi + 1) / 2 := by omega
      have m1 : lo < (lo + hi + 1) / 2 := by omega
      have m2 : (lo + hi + 1) / 2 ≤ hi := by omega
      go_wp2_with fail
      refine (F'.out ((lo + hi + 1) / 2) m0 (by omega) _ (hB.out.below hB.out.under Hb.out.2) (hC.out.below hC.out.under Hb.out.2)).mono ?_
      rintro e w1 ⟨rfl, q⟩
      have X1 : Hid (Below w.heap.size w w1) := Hb.out.2.trans (q.mono Hb.out.2.size)
      clear q
      by_cases hf : l.takes ((lo + hi + 1) / 2) ≤ room
      · have Hd : decide (l.takes ((lo + hi + 1) / 2) ≤ room) = true := by simp [hf]
        rw [Hd]
        have Hf : Hid (l.takes ((lo + hi + 1) / 2) ≤ room) := hf
        clear Hd hf
        go_wp2
        go_round
        case rel => exact ⟨_, _, m0, m2, h1, rfl, rfl, amid_up Hb.out.1 Hf.out, X1.out⟩
        case measure => simp only [intOf]; omega
      · have Hd : decide (l.takes ((lo + hi + 1) / 2) ≤ room) = false := by simp; omega
        rw [Hd]
        have Hf : Hid (room < l.takes ((lo + hi + 1) / 2)) := by show room < _; omega
        clear Hd hf
        go_wp2
        go_round
        case rel => exact ⟨_, _, l0, by omega, by omega, rfl, rfl, amid_down Hb.out.1 Hf.out, X1.out⟩
        case measure => simp only [intOf]; omega
    · go_wp2
      go_ret
      exact ⟨⟨_, rfl, amid_end Hb.out.1 l0 lh h1 (by omega)⟩, Hb.out.2⟩
end Go.Proofs.Ythnooglgppboeaa

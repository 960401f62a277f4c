/-
  The walk of the program's RowsOk. By the verifier.
-/
import Derived.Test.YtdcekimldgjliaaRwIdsI
import Derived.Deep.RegionWith
namespace Go.Proofs.Ytdcekimldgjliaa
open Go.RowKit

/-- As the program asks. -/
theorem Rw.ok_asks (r : Rw) : r.ok = (inB 1 200 r.most && (inB 1 16 (r.lists.length : Int) && (decide ((izSum r.lists r.lists.length : Int) ≤ r.most) && (r.all.all It.ok && decide (r.all.map It.id).Nodup)))) := by
  have e := all_length r
  unfold Rw.ok
  rw [← e]
  have e2 : decide (1 ≤ r.lists.length ∧ r.lists.length ≤ 16) = inB 1 16 (r.lists.length : Int) := by
    rw [Bool.eq_iff_iff, inB_true, decide_eq_true_iff]
    omega
  rw [e2]
  generalize decide (r.all.map It.id).Nodup = z1
  generalize r.all.all It.ok = z2
  generalize decide ((r.all.length : Int) ≤ r.most) = z3
  cases z1 <;> cases z2 <;> cases z3 <;> simp

set_option maxHeartbeats 6400000 in
set_option maxRecDepth 100000 in
theorem implRowsOk (r : Rw) (a : Option Addr) (c : Nat) (w : World) (hB : r.big ≤ 1048576) (h : Hid (IzAt w a r.lists)) :
    Calls Try.prog 11 #[r.val a c] w fun e w' => e = .returned (.bool r.ok) ∧ Below w.heap.size w w' := by
  have Hok : Hid _ := r.ok_asks
  have A1 := fun (w : World) (B : Nat) (hB : B = w.heap.size) => implFromOne 200 r.most B w hB
  have A2 := fun (w : World) (B : Nat) (hB : B = w.heap.size) => implFromOne 16 (r.lists.length : Int) B w hB
  have A3 := fun (w : World) h => implCountL r a c w hB h
  have A4 := fun (w : World) h => implEachIt r a c w hB h
  have A5 := fun (w : World) hok h => implIdsDiffer r a c w hB hok h
  unfold Rw.val at A3 A4 A5 ⊢
  generalize r.ok = ok at Hok ⊢
  obtain ⟨hT, -, -⟩ := Rw.small hB
  generalize r.lists.length = n at A1 A2 A3 A4 A5 hT Hok ⊢
  generalize (izSum r.lists n : Int) = cnt at A3 Hok
  generalize decide (r.all.map It.id).Nodup = b5 at A5 Hok
  generalize r.all.all It.ok = b4 at A4 A5 Hok
  generalize inB 1 200 r.most = b1 at A1 Hok
  generalize inB 1 16 (n : Int) = b2 at A2 Hok
  generalize r.most = f at A1 A3 A4 A5 Hok ⊢
  have A1' : Hid _ := A1
  have A2' : Hid _ := A2
  have A3' : Hid _ := A3
  have A4' : Hid _ := A4
  have A5' : Hid _ := A5
  clear A1 A2 A3 A4 A5 hB
  obtain ⟨S, hS⟩ : ∃ S, S = w.heap.size := ⟨_, rfl⟩
  have HS : Hid (S = w.heap.size) := hS
  have X : Hid (IzAt (w.alloc (.cells #[.int .i64 f, .slice a n c] 29)) a r.lists ∧ Boxed (w.alloc (.cells #[.int .i64 f, .slice a n c] 29)) S #[.int .i64 f, .slice a n c] 29 ∧ Below S w (w.alloc (.cells #[.int .i64 f, .slice a n c] 29))) := by
    rw [hS]
    exact ⟨h.out.alloc _, Boxed.new _ _ _, (Below.refl _ _).alloc (Nat.le_refl _) _⟩
  rw [← hS]
  go_enter Try.func11, Try.ntmps11
  go_wp2_with fail
  rw [← hS]
  generalize w.alloc (.cells #[.int .i64 f, .slice a n c] 29) = w0 at X ⊢
  clear hS h
  have c0 : w0.cell? ⟨S, 0, none⟩ = some (.int .i64 f) := X.out.2.1.cell 0 rfl
  have hl : S < w0.heap.size := X.out.2.1.under
  cases b1
  · first | (go_region_with (first | (go_at_call_of 30 (Value.int IntKind.i64 200); refine (A1'.out w0.drew w0.heap.size rfl).mono ?_; rintro e w1 ⟨rfl, hw1⟩; have X1 : Hid (IzAt w1 a r.lists ∧ Boxed w1 S #[.int .i64 f, .slice a n c] 29 ∧ Below S w w1) := (by rw [hw1]; exact ⟨X.out.1.drew.alloc _, Boxed.more (w := w0.drew) X.out.2.1 _, X.out.2.2.drew.alloc (Nat.le_of_lt hl) _⟩); have c1 : w1.cell? ⟨S, 1, none⟩ = some (.slice a n c) := X1.out.2.1.cell 1 rfl; have hl1 : S < w1.heap.size := X1.out.2.1.under; clear hw1))) | fail
    all_goals (
      go_wp2
      go_ret
      exact ⟨ret_bool (by rw [Hok.out]; simp), X1.out.2.2⟩)
  cases b2
  · first | (go_region_with (first | (go_at_call_of 30 (Value.int IntKind.i64 200); refine (A1'.out w0.drew w0.heap.size rfl).mono ?_; rintro e w1 ⟨rfl, hw1⟩; have X1 : Hid (IzAt w1 a r.lists ∧ Boxed w1 S #[.int .i64 f, .slice a n c] 29 ∧ Below S w w1) := (by rw [hw1]; exact ⟨X.out.1.drew.alloc _, Boxed.more (w := w0.drew) X.out.2.1 _, X.out.2.2.drew.alloc (Nat.le_of_lt hl) _⟩); have c1 : w1.cell? ⟨S, 1, none⟩ = some (.slice a n c) := X1.out.2.1.cell 1 rfl; have hl1 : S < w1.heap.size := X1.out.2.1.under; clear hw1) | (go_at_call_of 30 (Value.int IntKind.i64 16); refine (A2'.out _ _ (by simp)).mono ?_; rintro e w2 ⟨rfl, hw2⟩; have X2 : Hid (IzAt w2 a r.lists ∧ Boxed w2 S #[.int .i64 f, .slice a n c] 29 ∧ Below S w w2) := (by rw [hw2]; exact ⟨X1.out.1.alloc _, X1.out.2.1.more _, X1.out.2.2.alloc (Nat.le_of_lt X1.out.2.1.under) _⟩); have d0 : w2.cell? ⟨S, 0, none⟩ = some (.int .i64 f) := X2.out.2.1.cell 0 rfl; have d1 : w2.cell? ⟨S, 1, none⟩ = some (.slice a n c) := X2.out.2.1.cell 1 rfl; clear hw2))) | fail
    all_goals (
      go_wp2
      go_ret
      exact ⟨ret_bool (by rw [Hok.out]; simp), X2.out.2.2⟩)
  by_cases hc : cnt ≤ f
  rotate_left
  · rw [decide_eq_false hc] at Hok
    have hc' : decide (cnt ≤ f) = false := decide_eq_false hc
    first | (go_region_with (first | (go_at_call_of 30 (Value.int IntKind.i64 200); refine (A1'.out w0.drew w0.heap.size rfl).mono ?_; rintro e w1 ⟨rfl, hw1⟩; have X1 : Hid (IzAt w1 a r.lists ∧ Boxed w1 S #[.int .i64 f, .slice a n c] 29 ∧ Below S w w1) := (by rw [hw1]; exact ⟨X.out.1.drew.alloc _, Boxed.more (w := w0.drew) X.out.2.1 _, X.out.2.2.drew.alloc (Nat.le_of_lt hl) _⟩); have c1 : w1.cell? ⟨S, 1, none⟩ = some (.slice a n c) := X1.out.2.1.cell 1 rfl; have hl1 : S < w1.heap.size := X1.out.2.1.under; clear hw1) | (go_at_call_of 30 (Value.int IntKind.i64 16); refine (A2'.out _ _ (by simp)).mono ?_; rintro e w2 ⟨rfl, hw2⟩; have X2 : Hid (IzAt w2 a r.lists ∧ Boxed w2 S #[.int .i64 f, .slice a n c] 29 ∧ Below S w w2) := (by rw [hw2]; exact ⟨X1.out.1.alloc _, X1.out.2.1.more _, X1.out.2.2.alloc (Nat.le_of_lt X1.out.2.1.under) _⟩); have d0 : w2.cell? ⟨S, 0, none⟩ = some (.int .i64 f) := X2.out.2.1.cell 0 rfl; have d1 : w2.cell? ⟨S, 1, none⟩ = some (.slice a n c) := X2.out.2.1.cell 1 rfl; clear hw2) | (go_at_call 31; refine (A3'.out _ X2.out.1).mono ?_; rintro e w3 ⟨rfl, hb3⟩; have X3 : Hid (IzAt w3 a r.lists ∧ Boxed w3 S #[.int .i64 f, .slice a n c] 29 ∧ Below S w w3) := ⟨X2.out.1.below hb3, X2.out.2.1.below X2.out.2.1.under hb3, X2.out.2.2.trans (hb3.mono (Nat.le_of_lt X2.out.2.1.under))⟩; have f3 : w3.cell? ⟨S, 0, none⟩ = some (.int .i64 f) := X3.out.2.1.cell 0 rfl; have g3 : w3.cell? ⟨S, 1, none⟩ = some (.slice a n c) := X3.out.2.1.cell 1 rfl; clear hb3))) | fail
    all_goals (
      go_wp2
      go_ret
      exact ⟨ret_bool (by rw [Hok.out]; simp), X3.out.2.2⟩)
  rw [decide_eq_true hc] at Hok
  have hc' : decide (cnt ≤ f) = true := decide_eq_true hc
  cases b4
  · first | (go_region_with (first | (go_at_call_of 30 (Value.int IntKind.i64 200); refine (A1'.out w0.drew w0.heap.size rfl).mono ?_; rintro e w1 ⟨rfl, hw1⟩; have X1 : Hid (IzAt w1 a r.lists ∧ Boxed w1 S #[.int .i64 f, .slice a n c] 29 ∧ Below S w w1) := (by rw [hw1]; exact ⟨X.out.1.drew.alloc _, Boxed.more (w := w0.drew) X.out.2.1 _, X.out.2.2.drew.alloc (Nat.le_of_lt hl) _⟩); have c1 : w1.cell? ⟨S, 1, none⟩ = some (.slice a n c) := X1.out.2.1.cell 1 rfl; have hl1 : S < w1.heap.size := X1.out.2.1.under; clear hw1) | (go_at_call_of 30 (Value.int IntKind.i64 16); refine (A2'.out _ _ (by simp)).mono ?_; rintro e w2 ⟨rfl, hw2⟩; have X2 : Hid (IzAt w2 a r.lists ∧ Boxed w2 S #[.int .i64 f, .slice a n c] 29 ∧ Below S w w2) := (by rw [hw2]; exact ⟨X1.out.1.alloc _, X1.out.2.1.more _, X1.out.2.2.alloc (Nat.le_of_lt X1.out.2.1.under) _⟩); have d0 : w2.cell? ⟨S, 0, none⟩ = some (.int .i64 f) := X2.out.2.1.cell 0 rfl; have d1 : w2.cell? ⟨S, 1, none⟩ = some (.slice a n c) := X2.out.2.1.cell 1 rfl; clear hw2) | (go_at_call 31; refine (A3'.out _ X2.out.1).mono ?_; rintro e w3 ⟨rfl, hb3⟩; have X3 : Hid (IzAt w3 a r.lists ∧ Boxed w3 S #[.int .i64 f, .slice a n c] 29 ∧ Below S w w3) := ⟨X2.out.1.below hb3, X2.out.2.1.below X2.out.2.1.under hb3, X2.out.2.2.trans (hb3.mono (Nat.le_of_lt X2.out.2.1.under))⟩; have f3 : w3.cell? ⟨S, 0, none⟩ = some (.int .i64 f) := X3.out.2.1.cell 0 rfl; have g3 : w3.cell? ⟨S, 1, none⟩ = some (.slice a n c) := X3.out.2.1.cell 1 rfl; clear hb3) | (go_at_call 32; refine (A4'.out _ X3.out.1).mono ?_; rintro e w4 ⟨rfl, hb4⟩; have X4 : Hid (IzAt w4 a r.lists ∧ Boxed w4 S #[.int .i64 f, .slice a n c] 29 ∧ Below S w w4) := ⟨X3.out.1.below hb4, X3.out.2.1.below X3.out.2.1.under hb4, X3.out.2.2.trans (hb4.mono (Nat.le_of_lt X3.out.2.1.under))⟩; have f4 : w4.cell? ⟨S, 0, none⟩ = some (.int .i64 f) := X4.out.2.1.cell 0 rfl; have g4 : w4.cell? ⟨S, 1, none⟩ = some (.slice a n c) := X4.out.2.1.cell 1 rfl; clear hb4))) | fail
    all_goals (
      go_wp2
      go_ret
      exact ⟨ret_bool (by rw [Hok.out]; simp), X4.out.2.2⟩)
  first | (go_region_with (first | (go_at_call_of 30 (Value.int IntKind.i64 200); refine (A1'.out w0.drew w0.heap.size rfl).mono ?_; rintro e w1 ⟨rfl, hw1⟩; have X1 : Hid (IzAt w1 a r.lists ∧ Boxed w1 S #[.int .i64 f, .slice a n c] 29 ∧ Below S w w1) := (by rw [hw1]; exact ⟨X.out.1.drew.alloc _, Boxed.more (w := w0.drew) X.out.2.1 _, X.out.2.2.drew.alloc (Nat.le_of_lt hl) _⟩); have c1 : w1.cell? ⟨S, 1, none⟩ = some (.slice a n c) := X1.out.2.1.cell 1 rfl; have hl1 : S < w1.heap.size := X1.out.2.1.under; clear hw1) | (go_at_call_of 30 (Value.int IntKind.i64 16); refine (A2'.out _ _ (by simp)).mono ?_; rintro e w2 ⟨rfl, hw2⟩; have X2 : Hid (IzAt w2 a r.lists ∧ Boxed w2 S #[.int .i64 f, .slice a n c] 29 ∧ Below S w w2) := (by rw [hw2]; exact ⟨X1.out.1.alloc _, X1.out.2.1.more _, X1.out.2.2.alloc (Nat.le_of_lt X1.out.2.1.under) _⟩); have d0 : w2.cell? ⟨S, 0, none⟩ = some (.int .i64 f) := X2.out.2.1.cell 0 rfl; have d1 : w2.cell? ⟨S, 1, none⟩ = some (.slice a n c) := X2.out.2.1.cell 1 rfl; clear hw2) | (go_at_call 31; refine (A3'.out _ X2.out.1).mono ?_; rintro e w3 ⟨rfl, hb3⟩; have X3 : Hid (IzAt w3 a r.lists ∧ Boxed w3 S #[.int .i64 f, .slice a n c] 29 ∧ Below S w w3) := ⟨X2.out.1.below hb3, X2.out.2.1.below X2.out.2.1.under hb3, X2.out.2.2.trans (hb3.mono (Nat.le_of_lt X2.out.2.1.under))⟩; have f3 : w3.cell? ⟨S, 0, none⟩ = some (.int .i64 f) := X3.out.2.1.cell 0 rfl; have g3 : w3.cell? ⟨S, 1, none⟩ = some (.slice a n c) := X3.out.2.1.cell 1 rfl; clear hb3) | (go_at_call 32; refine (A4'.out _ X3.out.1).mono ?_; rintro e w4 ⟨rfl, hb4⟩; have X4 : Hid (IzAt w4 a r.lists ∧ Boxed w4 S #[.int .i64 f, .slice a n c] 29 ∧ Below S w w4) := ⟨X3.out.1.below hb4, X3.out.2.1.below X3.out.2.1.under hb4, X3.out.2.2.trans (hb4.mono (Nat.le_of_lt X3.out.2.1.under))⟩; have f4 : w4.cell? ⟨S, 0, none⟩ = some (.int .i64 f) := X4.out.2.1.cell 0 rfl; have g4 : w4.cell? ⟨S, 1, none⟩ = some (.slice a n c) := X4.out.2.1.cell 1 rfl; clear hb4) | (go_at_call 33; refine (A5'.out _ (by first | exact trivial | exact rfl) X4.out.1).mono ?_; rintro e w5 ⟨rfl, hb5⟩; have X5 : Hid (IzAt w5 a r.lists ∧ Boxed w5 S #[.int .i64 f, .slice a n c] 29 ∧ Below S w w5) := ⟨X4.out.1.below hb5, X4.out.2.1.below X4.out.2.1.under hb5, X4.out.2.2.trans (hb5.mono (Nat.le_of_lt X4.out.2.1.under))⟩; have f5 : w5.cell? ⟨S, 0, none⟩ = some (.int .i64 f) := X5.out.2.1.cell 0 rfl; have g5 : w5.cell? ⟨S, 1, none⟩ = some (.slice a n c) := X5.out.2.1.cell 1 rfl; clear hb5))) | fail
  all_goals (
    go_wp2
    go_ret
    exact ⟨ret_bool (by rw [Hok.out]; simp), X5.out.2.2⟩)
end Go.Proofs.Ytdcekimldgjliaa

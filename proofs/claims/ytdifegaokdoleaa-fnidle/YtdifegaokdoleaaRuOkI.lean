/-
  The walk of the program's way to tell a right rule. By the verifier, by program.
-/
import Derived.Test.YtdifegaokdoleaaM5RtFitL
import Derived.Test.YtdifegaokdoleaaM2Box
namespace Go.Proofs.Ytdifegaokdoleaa
open Go.RowKit

/-- As the program asks. -/
theorem Ru.ok_asks (r : Ru) : r.ok = (decide (1 ≤ r.id) && (inB 0 999 r.id && (inB 0 99 r.prio && (netB r.snet r.sbits && (netB r.dnet r.dbits && ((decide (r.proto = -1) || inB 0 255 r.proto) && (inB 0 r.high r.low && (inB 0 65535 r.high && inB 0 15 r.cls)))))))) := by
  rw [Bool.eq_iff_iff]
  unfold Ru.ok
  simp only [Bool.and_eq_true, Bool.or_eq_true, inB_true, decide_eq_true_eq]
  generalize (netB r.snet r.sbits = true) = p
  generalize (netB r.dnet r.dbits = true) = q
  constructor
  · rintro ⟨h1, h2, h3, h4, h5, h6, h7, h8⟩
    exact ⟨by omega, by omega, h2, h3, h4, by omega, h7, h6, h8⟩
  · rintro ⟨h0, h1, h2, h3, h4, h5, h6, h7, h8⟩
    exact ⟨by omega, h2, h3, h4, by omega, h7, h6, h8⟩

set_option maxHeartbeats 6400000 in
set_option maxRecDepth 100000 in
theorem implRule (r : Ru) (w : World) :
    Calls Try.prog 67 #[r.val] w fun e w' => e = .returned (.bool r.ok) ∧ Below w.heap.size w w' := by
  have Hok : Hid _ := r.ok_asks
  obtain ⟨i, p, sn, sb, dn, db, pr, lo, hi, cl⟩ := r
  generalize Ru.ok _ = ok at Hok ⊢
  simp only [Ru.val] at Hok ⊢
  have X0 : Hid (Below w.heap.size w (w.alloc (.cells #[.int .i64 i, .int .i64 p, .int .i64 sn, .int .i64 sb, .int .i64 dn, .int .i64 db, .int .i64 pr, .int .i64 lo, .int .i64 hi, .int .i64 cl] 32)) ∧ Boxed (w.alloc (.cells #[.int .i64 i, .int .i64 p, .int .i64 sn, .int .i64 sb, .int .i64 dn, .int .i64 db, .int .i64 pr, .int .i64 lo, .int .i64 hi, .int .i64 cl] 32)) w.heap.size #[.int .i64 i, .int .i64 p, .int .i64 sn, .int .i64 sb, .int .i64 dn, .int .i64 db, .int .i64 pr, .int .i64 lo, .int .i64 hi, .int .i64 cl] 32) := ⟨(Below.refl _ _).alloc (Nat.le_refl _) _, Boxed.new _ _ _⟩
  by_cases h0 : 1 ≤ i
  rotate_left
  · have e : Hid (ok = false) := by show ok = false; rw [Hok.out, decide_eq_false h0]; rfl
    clear Hok
    go_enter Try.func67, Try.ntmps67
    go_wp2
    go_ret
    exact ⟨ret_bool e.out.symm, X0.out.1⟩
  have A1 := fun (w : World) (B : Nat) (hB : B = w.heap.size) => implUpTo1 999 i w B hB
  have A2 := fun (w : World) (B : Nat) (hB : B = w.heap.size) => implUpTo1 99 p w B hB
  have A3 := fun (w : World) => implNet sn sb w
  have A4 := fun (w : World) => implNet dn db w
  have A5 := fun (w : World) (B : Nat) (hB : B = w.heap.size) => implUpTo1 255 pr w B hB
  have A6 := fun (w : World) (B : Nat) (hB : B = w.heap.size) => implUpTo1 hi lo w B hB
  have A7 := fun (w : World) (B : Nat) (hB : B = w.heap.size) => implUpTo1 65535 hi w B hB
  have A8 := fun (w : World) (B : Nat) (hB : B = w.heap.size) => implUpTo1 15 cl w B hB
  generalize inB 0 999 i = b1 at A1 Hok
  generalize inB 0 99 p = b2 at A2 Hok
  generalize netB sn sb = b3 at A3 Hok
  generalize netB dn db = b4 at A4 Hok
  generalize inB 0 255 pr = b5 at A5 Hok
  generalize inB 0 hi lo = b6 at A6 Hok
  generalize inB 0 65535 hi = b7 at A7 Hok
  generalize inB 0 15 cl = b8 at A8 Hok
  have A1' : Hid _ := A1
  have A2' : Hid _ := A2
  have A3' : Hid _ := A3
  have A4' : Hid _ := A4
  have A5' : Hid _ := A5
  have A6' : Hid _ := A6
  have A7' : Hid _ := A7
  have A8' : Hid _ := A8
  clear A1 A2 A3 A4 A5 A6 A7 A8
  rw [decide_eq_true h0] at Hok
  go_enter Try.func67, Try.ntmps67
  go_wp2_with fail
  refine (A1'.out _ _ (by simp)).mono ?_
  rintro e w' ⟨rfl, rfl⟩
  have X1 : Hid (Below w.heap.size w ((w.alloc (.cells #[.int .i64 i, .int .i64 p, .int .i64 sn, .int .i64 sb, .int .i64 dn, .int .i64 db, .int .i64 pr, .int .i64 lo, .int .i64 hi, .int .i64 cl] 32)).alloc (.cells #[.int .i64 i] 2)) ∧ Boxed ((w.alloc (.cells #[.int .i64 i, .int .i64 p, .int .i64 sn, .int .i64 sb, .int .i64 dn, .int .i64 db, .int .i64 pr, .int .i64 lo, .int .i64 hi, .int .i64 cl] 32)).alloc (.cells #[.int .i64 i] 2)) w.heap.size #[.int .i64 i, .int .i64 p, .int .i64 sn, .int .i64 sb, .int .i64 dn, .int .i64 db, .int .i64 pr, .int .i64 lo, .int .i64 hi, .int .i64 cl] 32) := ⟨X0.out.1.alloc X0.out.1.size _, X0.out.2.more _⟩
  generalize (w.alloc (.cells #[.int .i64 i, .int .i64 p, .int .i64 sn, .int .i64 sb, .int .i64 dn, .int .i64 db, .int .i64 pr, .int .i64 lo, .int .i64 hi, .int .i64 cl] 32)).alloc (.cells #[.int .i64 i] 2) = w1 at X1 ⊢
  clear X0
  cases b1
  · go_wp2
    go_ret
    exact ⟨ret_bool (by rw [Hok.out]; simp), X1.out.1⟩
  have c1_1 : w1.cell? ⟨w.heap.size, 1, none⟩ = some (.int .i64 p) := X1.out.2.cell 1 rfl
  go_wp2_with fail
  refine (A2'.out _ _ (by simp)).mono ?_
  rintro e w' ⟨rfl, rfl⟩
  have X2 : Hid (Below w.heap.size w (w1.alloc (.cells #[.int .i64 p] 2)) ∧ Boxed (w1.alloc (.cells #[.int .i64 p] 2)) w.heap.size #[.int .i64 i, .int .i64 p, .int .i64 sn, .int .i64 sb, .int .i64 dn, .int .i64 db, .int .i64 pr, .int .i64 lo, .int .i64 hi, .int .i64 cl] 32) := ⟨X1.out.1.alloc X1.out.1.size _, X1.out.2.more _⟩
  generalize w1.alloc (.cells #[.int .i64 p] 2) = w2 at X2 ⊢
  clear X1
  cases b2
  · go_wp2
    go_ret
    exact ⟨ret_bool (by rw [Hok.out]; simp), X2.out.1⟩
  have c2_2 : w2.cell? ⟨w.heap.size, 2, none⟩ = some (.int .i64 sn) := X2.out.2.cell 2 rfl
  have c2_3 : w2.cell? ⟨w.heap.size, 3, none⟩ = some (.int .i64 sb) := X2.out.2.cell 3 rfl
  go_wp2_with fail
  refine (A3'.out _).mono ?_
  rintro e w3 ⟨rfl, hb⟩
  have X3 : Hid (Below w.heap.size w w3 ∧ Boxed w3 w.heap.size #[.int .i64 i, .int .i64 p, .int .i64 sn, .int .i64 sb, .int .i64 dn, .int .i64 db, .int .i64 pr, .int .i64 lo, .int .i64 hi, .int .i64 cl] 32) := ⟨X2.out.1.trans (hb.mono X2.out.1.size), X2.out.2.below X2.out.2.under hb⟩
  clear hb
  clear X2
  cases b3
  · go_wp2
    go_ret
    exact ⟨ret_bool (by rw [Hok.out]; simp), X3.out.1⟩
  have c3_4 : w3.cell? ⟨w.heap.size, 4, none⟩ = some (.int .i64 dn) := X3.out.2.cell 4 rfl
  have c3_5 : w3.cell? ⟨w.heap.size, 5, none⟩ = some (.int .i64 db) := X3.out.2.cell 5 rfl
  go_wp2_with fail
  refine (A4'.out _).mono ?_
  rintro e w4 ⟨rfl, hb⟩
  have X4 : Hid (Below w.heap.size w w4 ∧ Boxed w4 w.heap.size #[.int .i64 i, .int .i64 p, .int .i64 sn, .int .i64 sb, .int .i64 dn, .int .i64 db, .int .i64 pr, .int .i64 lo, .int .i64 hi, .int .i64 cl] 32) := ⟨X3.out.1.trans (hb.mono X3.out.1.size), X3.out.2.below X3.out.2.under hb⟩
  clear hb
  clear X3
  cases b4
  · go_wp2
    go_ret
    exact ⟨ret_bool (by rw [Hok.out]; simp), X4.out.1⟩
  have c4_6 : w4.cell? ⟨w.heap.size, 6, none⟩ = some (.int .i64 pr) := X4.out.2.cell 6 rfl
  have c4_7 : w4.cell? ⟨w.heap.size, 7, none⟩ = some (.int .i64 lo) := X4.out.2.cell 7 rfl
  have c4_8 : w4.cell? ⟨w.heap.size, 8, none⟩ = some (.int .i64 hi) := X4.out.2.cell 8 rfl
  by_cases hp : pr = -1
  · have O2 : Hid (ok = (b6 && (b7 && b8))) := by show ok = _; rw [Hok.out, decide_eq_true hp]; simp
    clear Hok
    have Hok := O2
    subst hp
    have X5 := X4
    clear X4 A5' O2
    have d5_7 : w4.cell? ⟨w.heap.size, 7, none⟩ = some (.int .i64 lo) := X5.out.2.cell 7 rfl
    have d5_8 : w4.cell? ⟨w.heap.size, 8, none⟩ = some (.int .i64 hi) := X5.out.2.cell 8 rfl
    go_wp2_with fail
    refine (A6'.out _ _ (by simp)).mono ?_
    rintro e w' ⟨rfl, rfl⟩
    have X6 : Hid (Below w.heap.size w (w4.alloc (.cells #[.int .i64 lo] 2)) ∧ Boxed (w4.alloc (.cells #[.int .i64 lo] 2)) w.heap.size #[.int .i64 i, .int .i64 p, .int .i64 sn, .int .i64 sb, .int .i64 dn, .int .i64 db, .int .i64 (-1), .int .i64 lo, .int .i64 hi, .int .i64 cl] 32) := ⟨X5.out.1.alloc X5.out.1.size _, X5.out.2.more _⟩
    generalize w4.alloc (.cells #[.int .i64 lo] 2) = w6 at X6 ⊢
    clear X5
    cases b6
    · go_wp2
      go_ret
      exact ⟨ret_bool (by rw [Hok.out]; simp), X6.out.1⟩
    have c6_8 : w6.cell? ⟨w.heap.size, 8, none⟩ = some (.int .i64 hi) := X6.out.2.cell 8 rfl
    go_wp2_with fail
    refine (A7'.out _ _ (by simp)).mono ?_
    rintro e w' ⟨rfl, rfl⟩
    have X7 : Hid (Below w.heap.size w (w6.alloc (.cells #[.int .i64 hi] 2)) ∧ Boxed (w6.alloc (.cells #[.int .i64 hi] 2)) w.heap.size #[.int .i64 i, .int .i64 p, .int .i64 sn, .int .i64 sb, .int .i64 dn, .int .i64 db, .int .i64 (-1), .int .i64 lo, .int .i64 hi, .int .i64 cl] 32) := ⟨X6.out.1.alloc X6.out.1.size _, X6.out.2.more _⟩
    generalize w6.alloc (.cells #[.int .i64 hi] 2) = w7 at X7 ⊢
    clear X6
    cases b7
    · go_wp2
      go_ret
      exact ⟨ret_bool (by rw [Hok.out]; simp), X7.out.1⟩
    have c7_9 : w7.cell? ⟨w.heap.size, 9, none⟩ = some (.int .i64 cl) := X7.out.2.cell 9 rfl
    go_wp2_with fail
    refine (A8'.out _ _ (by simp)).mono ?_
    rintro e w' ⟨rfl, rfl⟩
    have X8 : Hid (Below w.heap.size w (w7.alloc (.cells #[.int .i64 cl] 2)) ∧ Boxed (w7.alloc (.cells #[.int .i64 cl] 2)) w.heap.size #[.int .i64 i, .int .i64 p, .int .i64 sn, .int .i64 sb, .int .i64 dn, .int .i64 db, .int .i64 (-1), .int .i64 lo, .int .i64 hi, .int .i64 cl] 32) := ⟨X7.out.1.alloc X7.out.1.size _, X7.out.2.more _⟩
    generalize w7.alloc (.cells #[.int .i64 cl] 2) = w8 at X8 ⊢
    clear X7
    go_wp2
    go_ret
    exact ⟨ret_bool (by rw [Hok.out]; simp), X8.out.1⟩
  have hp2 : (pr == -1) = false := by simp [hp]
  have O2 : Hid (ok = (b5 && (b6 && (b7 && b8)))) := by show ok = _; rw [Hok.out, decide_eq_false hp]; simp
  clear Hok
  have Hok := O2
  go_wp2_with fail
  refine (A5'.out _ _ (by simp)).mono ?_
  rintro e w' ⟨rfl, rfl⟩
  have X5 : Hid (Below w.heap.size w (w4.alloc (.cells #[.int .i64 pr] 2)) ∧ Boxed (w4.alloc (.cells #[.int .i64 pr] 2)) w.heap.size #[.int .i64 i, .int .i64 p, .int .i64 sn, .int .i64 sb, .int .i64 dn, .int .i64 db, .int .i64 pr, .int .i64 lo, .int .i64 hi, .int .i64 cl] 32) := ⟨X4.out.1.alloc X4.out.1.size _, X4.out.2.more _⟩
  generalize w4.alloc (.cells #[.int .i64 pr] 2) = w5 at X5 ⊢
  clear X4
  cases b5
  · go_wp2
    go_ret
    exact ⟨ret_bool (by rw [Hok.out]; simp), X5.out.1⟩
  have c5_7 : w5.cell? ⟨w.heap.size, 7, none⟩ = some (.int .i64 lo) := X5.out.2.cell 7 rfl
  have c5_8 : w5.cell? ⟨w.heap.size, 8, none⟩ = some (.int .i64 hi) := X5.out.2.cell 8 rfl
  go_wp2_with fail
  refine (A6'.out _ _ (by simp)).mono ?_
  rintro e w' ⟨rfl, rfl⟩
  have X6 : Hid (Below w.heap.size w (w5.alloc (.cells #[.int .i64 lo] 2)) ∧ Boxed (w5.alloc (.cells #[.int .i64 lo] 2)) w.heap.size #[.int .i64 i, .int .i64 p, .int .i64 sn, .int .i64 sb, .int .i64 dn, .int .i64 db, .int .i64 pr, .int .i64 lo, .int .i64 hi, .int .i64 cl] 32) := ⟨X5.out.1.alloc X5.out.1.size _, X5.out.2.more _⟩
  generalize w5.alloc (.cells #[.int .i64 lo] 2) = w6 at X6 ⊢
  clear X5
  cases b6
  · go_wp2
    go_ret
    exact ⟨ret_bool (by rw [Hok.out]; simp), X6.out.1⟩
  have c6_8 : w6.cell? ⟨w.heap.size, 8, none⟩ = some (.int .i64 hi) := X6.out.2.cell 8 rfl
  go_wp2_with fail
  refine (A7'.out _ _ (by simp)).mono ?_
  rintro e w' ⟨rfl, rfl⟩
  have X7 : Hid (Below w.heap.size w (w6.alloc (.cells #[.int .i64 hi] 2)) ∧ Boxed (w6.alloc (.cells #[.int .i64 hi] 2)) w.heap.size #[.int .i64 i, .int .i64 p, .int .i64 sn, .int .i64 sb, .int .i64 dn, .int .i64 db, .int .i64 pr, .int .i64 lo, .int .i64 hi, .int .i64 cl] 32) := ⟨X6.out.1.alloc X6.out.1.size _, X6.out.2.more _⟩
  generalize w6.alloc (.cells #[.int .i64 hi] 2) = w7 at X7 ⊢
  clear X6
  cases b7
  · go_wp2
    go_ret
    exact ⟨ret_bool (by rw [Hok.out]; simp), X7.out.1⟩
  have c7_9 : w7.cell? ⟨w.heap.size, 9, none⟩ = some (.int .i64 cl) := X7.out.2.cell 9 rfl
  go_wp2_with fail
  refine (A8'.out _ _ (by simp)).mono ?_
  rintro e w' ⟨rfl, rfl⟩
  have X8 : Hid (Below w.heap.size w (w7.alloc (.cells #[.int .i64 cl] 2)) ∧ Boxed (w7.alloc (.cells #[.int .i64 cl] 2)) w.heap.size #[.int .i64 i, .int .i64 p, .int .i64 sn, .int .i64 sb, .int .i64 dn, .int .i64 db, .int .i64 pr, .int .i64 lo, .int .i64 hi, .int .i64 cl] 32) := ⟨X7.out.1.alloc X7.out.1.size _, X7.out.2.more _⟩
  generalize w7.alloc (.cells #[.int .i64 cl] 2) = w8 at X8 ⊢
  clear X7
  go_wp2
  go_ret
  exact ⟨ret_bool (by rw [Hok.out]; simp), X8.out.1⟩
end Go.Proofs.Ytdifegaokdoleaa

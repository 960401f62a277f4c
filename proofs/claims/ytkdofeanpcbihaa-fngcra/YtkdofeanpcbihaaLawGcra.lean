/-
  The walk of FnGcra. By the verifier, by program.
-/
import Derived.Test.YtkdofeanpcbihaaPeDrawE
import Derived.Test.YtkdofeanpcbihaaPeDrawL
import Derived.Test.YtkdofeanpcbihaaPeSpec
import Derived.Test.YtkdofeanpcbihaaPeEL
import Derived.Test.YtkdofeanpcbihaaPzFacts
import Derived.Test.YtkdofeanpcbihaaPickD
import Derived.Test.YtkdofeanpcbihaaBxs
import Derived.BigQuiet
namespace Go.Proofs.Ytkdofeanpcbihaa
open Go.RowKit

/-- What a round of the loop finds. -/
structure GcS (w : World) (gp : Nat) (p : Pe) (k : Nat) (now sum : Int) (wr : World) : Prop where
  bel : Below w.heap.size w wr
  le : w.heap.size ≤ gp
  box : Boxed wr gp #[.int .i64 p.gap, .int .i64 p.slack, .int .i64 p.next, .int .i64 p.fill, .int .i64 p.last] 25
  same : Same p now sum
  now0 : 0 ≤ now
  now1 : now ≤ 12 * k
  sum1 : sum ≤ k
  gap9 : p.gap ≤ 9
  slack : 0 ≤ p.slack ∧ p.slack ≤ 19

theorem gc_small {s g : Int} (h1 : -1 ≤ s) (h2 : s ≤ 40) (g1 : 1 ≤ g) (g2 : g ≤ 9) : -9 ≤ s * g ∧ s * g ≤ 360 := by
  constructor
  · have := Int.mul_le_mul_of_nonneg_right h1 (show 0 ≤ g by omega)
    omega
  · have := Int.mul_le_mul h2 g2 (show 0 ≤ g by omega) (by omega)
    omega
set_option maxHeartbeats 6400000 in
set_option maxRecDepth 100000 in
theorem fnGcra_walk (a : Option Addr) (len cap : Nat) (w : World)
    (hcode : ∀ k, k < len → ∃ b off z, a = some ⟨b, off, none⟩ ∧ b < w.heap.size ∧ w.cell? ⟨b, off + k, none⟩ = some (.int .u8 z) ∧ 0 ≤ z ∧ z ≤ 255) :
    Calls Try.prog 3 #[.slice a len cap] w fun e w' => e = .returned (.bool true) ∧ Below w.heap.size w w' := by
  by_cases hbig : 4096 < len
  · clear hcode
    go_enter Try.func3, Try.ntmps3
    go_wp2
    go_ret
    exact ⟨rfl, Below.refl _ _⟩
  have hc : Hid (Code w a len) := ⟨by omega, hcode⟩
  have hb : Hid (Below w.heap.size w w) := Below.refl _ _
  clear hcode
  go_enter Try.func3, Try.ntmps3
  go_wp2_with (go_at_call 5; go_in)
  refine (dDrawEarly hc _ hb).mono ?_
  rintro e w1 ⟨⟨⟨a0, a1, a2, a3, a4⟩, t, rfl, _, _⟩, q⟩
  have H1 : Hid (Bxs 25 [] w w1) := ⟨q, fun _ _ h => by cases h⟩
  clear q hb
  simp only [Pe.val]
  have N : Hid (Boxed (w1.alloc (.cells #[.int .i64 0, .int .i64 0, .int .i64 0, .int .i64 0, .int .i64 0] 25)) w1.heap.size #[.int .i64 0, .int .i64 0, .int .i64 0, .int .i64 0, .int .i64 0] 25) := Boxed.new _ _ _
  have H2 : Hid (Bxs 25 [(w1.heap.size, #[.int .i64 a0, .int .i64 a1, .int .i64 a2, .int .i64 a3, .int .i64 a4])] w ((w1.alloc (.cells #[.int .i64 0, .int .i64 0, .int .i64 0, .int .i64 0, .int .i64 0] 25)).setRow w1.heap.size #[.int .i64 a0, .int .i64 a1, .int .i64 a2, .int .i64 a3, .int .i64 a4])) := H1.out.store _ _
  go_wp2_with (first | (refine wpList_store_row rfl 25 (.tmp _) (.tmp _) rfl w1.heap.size #[.int .i64 a0, .int .i64 a1, .int .i64 a2, .int .i64 a3, .int .i64 a4] rfl rfl _ _ N.out (by kernel_rfl) rfl (peOnes _ _ _ _ _) ?_) | (refine wpList_load_row rfl 25 (.tmp _) rfl (w1.heap.size) rfl _ _ _ _ (H2.out.at 0 rfl) Try.underlying25 rfl (by kernel_rfl) ?_))
  generalize ((w1.alloc (.cells #[.int .i64 0, .int .i64 0, .int .i64 0, .int .i64 0, .int .i64 0] 25)).setRow w1.heap.size #[.int .i64 a0, .int .i64 a1, .int .i64 a2, .int .i64 a3, .int .i64 a4]) = w2 at H2 ⊢
  generalize w1.heap.size = ga at H2 ⊢
  clear N H1
  obtain ⟨r, hr⟩ : ∃ r, r = Pe.early (Pe.mk a0 a1 a2 a3 a4) t := ⟨_, rfl⟩
  obtain ⟨one, hbb⟩ : ∃ r, r = Pe.earlyB (Pe.mk a0 a1 a2 a3 a4) t := ⟨_, rfl⟩
  have C := fun w => implEarly (Pe.mk a0 a1 a2 a3 a4) t w
  have D := fun w => specEarly (Pe.mk a0 a1 a2 a3 a4) t w
  rw [← hr, ← hbb] at C D
  clear hr hbb
  obtain ⟨x0, x1, x2, x3, x4⟩ := r
  simp only [Pe.val] at C D
  have C1 : Hid _ := C
  have D1 : Hid _ := D
  clear C D
  refine (C1.out _).mono ?_
  rintro e w3 ⟨rfl, q⟩
  have H3 : Hid (Bxs 25 [(ga, #[.int .i64 a0, .int .i64 a1, .int .i64 a2, .int .i64 a3, .int .i64 a4])] w w3) := H2.out.below q
  clear q H2 C1
  have N : Hid (Boxed (w3.alloc (.cells #[.int .i64 0, .int .i64 0, .int .i64 0, .int .i64 0, .int .i64 0] 25)) w3.heap.size #[.int .i64 0, .int .i64 0, .int .i64 0, .int .i64 0, .int .i64 0] 25) := Boxed.new _ _ _
  have H4 : Hid (Bxs 25 [(w3.heap.size, #[.int .i64 x0, .int .i64 x1, .int .i64 x2, .int .i64 x3, .int .i64 x4]), (ga, #[.int .i64 a0, .int .i64 a1, .int .i64 a2, .int .i64 a3, .int .i64 a4])] w ((w3.alloc (.cells #[.int .i64 0, .int .i64 0, .int .i64 0, .int .i64 0, .int .i64 0] 25)).setRow w3.heap.size #[.int .i64 x0, .int .i64 x1, .int .i64 x2, .int .i64 x3, .int .i64 x4])) := H3.out.store _ _
  go_wp2_with (first | (refine wpList_store_row rfl 25 (.tmp _) (.tmp _) rfl w3.heap.size #[.int .i64 x0, .int .i64 x1, .int .i64 x2, .int .i64 x3, .int .i64 x4] rfl rfl _ _ N.out (by kernel_rfl) rfl (peOnes _ _ _ _ _) ?_) | (refine wpList_load_row rfl 25 (.tmp _) rfl (w3.heap.size) rfl _ _ _ _ (H4.out.at 0 rfl) Try.underlying25 rfl (by kernel_rfl) ?_) | (refine wpList_load_row rfl 25 (.tmp _) rfl (ga) rfl _ _ _ _ (H4.out.at 1 rfl) Try.underlying25 rfl (by kernel_rfl) ?_))
  generalize ((w3.alloc (.cells #[.int .i64 0, .int .i64 0, .int .i64 0, .int .i64 0, .int .i64 0] 25)).setRow w3.heap.size #[.int .i64 x0, .int .i64 x1, .int .i64 x2, .int .i64 x3, .int .i64 x4]) = w4 at H4 ⊢
  generalize w3.heap.size = gx at H4 ⊢
  clear N H3
  refine (dDrawLeaky hc _ (hid_bel H4)).mono ?_
  rintro e w5 ⟨⟨⟨b0, b1, b2, b3, b4⟩, u, rfl, _, _⟩, q⟩
  have H5 : Hid (Bxs 25 [(gx, #[.int .i64 x0, .int .i64 x1, .int .i64 x2, .int .i64 x3, .int .i64 x4]), (ga, #[.int .i64 a0, .int .i64 a1, .int .i64 a2, .int .i64 a3, .int .i64 a4])] w w5) := H4.out.below q
  clear q H4
  simp only [Pe.val]
  have N : Hid (Boxed (w5.alloc (.cells #[.int .i64 0, .int .i64 0, .int .i64 0, .int .i64 0, .int .i64 0] 25)) w5.heap.size #[.int .i64 0, .int .i64 0, .int .i64 0, .int .i64 0, .int .i64 0] 25) := Boxed.new _ _ _
  have H6 : Hid (Bxs 25 [(w5.heap.size, #[.int .i64 b0, .int .i64 b1, .int .i64 b2, .int .i64 b3, .int .i64 b4]), (gx, #[.int .i64 x0, .int .i64 x1, .int .i64 x2, .int .i64 x3, .int .i64 x4]), (ga, #[.int .i64 a0, .int .i64 a1, .int .i64 a2, .int .i64 a3, .int .i64 a4])] w ((w5.alloc (.cells #[.int .i64 0, .int .i64 0, .int .i64 0, .int .i64 0, .int .i64 0] 25)).setRow w5.heap.size #[.int .i64 b0, .int .i64 b1, .int .i64 b2, .int .i64 b3, .int .i64 b4])) := H5.out.store _ _
  go_wp2_with (first | (refine wpList_store_row rfl 25 (.tmp _) (.tmp _) rfl w5.heap.size #[.int .i64 b0, .int .i64 b1, .int .i64 b2, .int .i64 b3, .int .i64 b4] rfl rfl _ _ N.out (by kernel_rfl) rfl (peOnes _ _ _ _ _) ?_) | (refine wpList_load_row rfl 25 (.tmp _) rfl (w5.heap.size) rfl _ _ _ _ (H6.out.at 0 rfl) Try.underlying25 rfl (by kernel_rfl) ?_) | (refine wpList_load_row rfl 25 (.tmp _) rfl (gx) rfl _ _ _ _ (H6.out.at 1 rfl) Try.underlying25 rfl (by kernel_rfl) ?_) | (refine wpList_load_row rfl 25 (.tmp _) rfl (ga) rfl _ _ _ _ (H6.out.at 2 rfl) Try.underlying25 rfl (by kernel_rfl) ?_))
  generalize ((w5.alloc (.cells #[.int .i64 0, .int .i64 0, .int .i64 0, .int .i64 0, .int .i64 0] 25)).setRow w5.heap.size #[.int .i64 b0, .int .i64 b1, .int .i64 b2, .int .i64 b3, .int .i64 b4]) = w6 at H6 ⊢
  generalize w5.heap.size = gb at H6 ⊢
  clear N H5
  obtain ⟨r, hr⟩ : ∃ r, r = Pe.leaky (Pe.mk b0 b1 b2 b3 b4) u := ⟨_, rfl⟩
  obtain ⟨two, hbb⟩ : ∃ r, r = Pe.leakyB (Pe.mk b0 b1 b2 b3 b4) u := ⟨_, rfl⟩
  have C := fun w => implLeaky (Pe.mk b0 b1 b2 b3 b4) u w
  have D := fun w => specLeaky (Pe.mk b0 b1 b2 b3 b4) u w
  rw [← hr, ← hbb] at C D
  clear hr hbb
  obtain ⟨y0, y1, y2, y3, y4⟩ := r
  simp only [Pe.val] at C D
  have C2 : Hid _ := C
  have D2 : Hid _ := D
  clear C D
  refine (C2.out _).mono ?_
  rintro e w7 ⟨rfl, q⟩
  have H7 : Hid (Bxs 25 [(gb, #[.int .i64 b0, .int .i64 b1, .int .i64 b2, .int .i64 b3, .int .i64 b4]), (gx, #[.int .i64 x0, .int .i64 x1, .int .i64 x2, .int .i64 x3, .int .i64 x4]), (ga, #[.int .i64 a0, .int .i64 a1, .int .i64 a2, .int .i64 a3, .int .i64 a4])] w w7) := H6.out.below q
  clear q H6 C2
  have N : Hid (Boxed (w7.alloc (.cells #[.int .i64 0, .int .i64 0, .int .i64 0, .int .i64 0, .int .i64 0] 25)) w7.heap.size #[.int .i64 0, .int .i64 0, .int .i64 0, .int .i64 0, .int .i64 0] 25) := Boxed.new _ _ _
  have H8 : Hid (Bxs 25 [(w7.heap.size, #[.int .i64 y0, .int .i64 y1, .int .i64 y2, .int .i64 y3, .int .i64 y4]), (gb, #[.int .i64 b0, .int .i64 b1, .int .i64 b2, .int .i64 b3, .int .i64 b4]), (gx, #[.int .i64 x0, .int .i64 x1, .int .i64 x2, .int .i64 x3, .int .i64 x4]), (ga, #[.int .i64 a0, .int .i64 a1, .int .i64 a2, .int .i64 a3, .int .i64 a4])] w ((w7.alloc (.cells #[.int .i64 0, .int .i64 0, .int .i64 0, .int .i64 0, .int .i64 0] 25)).setRow w7.heap.size #[.int .i64 y0, .int .i64 y1, .int .i64 y2, .int .i64 y3, .int .i64 y4])) := H7.out.store _ _
  go_wp2_with (first | (refine wpList_store_row rfl 25 (.tmp _) (.tmp _) rfl w7.heap.size #[.int .i64 y0, .int .i64 y1, .int .i64 y2, .int .i64 y3, .int .i64 y4] rfl rfl _ _ N.out (by kernel_rfl) rfl (peOnes _ _ _ _ _) ?_) | (refine wpList_load_row rfl 25 (.tmp _) rfl (w7.heap.size) rfl _ _ _ _ (H8.out.at 0 rfl) Try.underlying25 rfl (by kernel_rfl) ?_) | (refine wpList_load_row rfl 25 (.tmp _) rfl (gb) rfl _ _ _ _ (H8.out.at 1 rfl) Try.underlying25 rfl (by kernel_rfl) ?_) | (refine wpList_load_row rfl 25 (.tmp _) rfl (gx) rfl _ _ _ _ (H8.out.at 2 rfl) Try.underlying25 rfl (by kernel_rfl) ?_) | (refine wpList_load_row rfl 25 (.tmp _) rfl (ga) rfl _ _ _ _ (H8.out.at 3 rfl) Try.underlying25 rfl (by kernel_rfl) ?_))
  generalize ((w7.alloc (.cells #[.int .i64 0, .int .i64 0, .int .i64 0, .int .i64 0, .int .i64 0] 25)).setRow w7.heap.size #[.int .i64 y0, .int .i64 y1, .int .i64 y2, .int .i64 y3, .int .i64 y4]) = w8 at H8 ⊢
  generalize w7.heap.size = gy at H8 ⊢
  clear N H7
  refine (D1.out _).mono ?_
  rintro e w9 ⟨rfl, q⟩
  have H9 : Hid (Bxs 25 [(gy, #[.int .i64 y0, .int .i64 y1, .int .i64 y2, .int .i64 y3, .int .i64 y4]), (gb, #[.int .i64 b0, .int .i64 b1, .int .i64 b2, .int .i64 b3, .int .i64 b4]), (gx, #[.int .i64 x0, .int .i64 x1, .int .i64 x2, .int .i64 x3, .int .i64 x4]), (ga, #[.int .i64 a0, .int .i64 a1, .int .i64 a2, .int .i64 a3, .int .i64 a4])] w w9) := H8.out.below q
  clear q H8 D1
  have N : Hid (Boxed (w9.alloc (.cells #[.int .i64 0, .int .i64 0, .int .i64 0, .int .i64 0, .int .i64 0] 25)) w9.heap.size #[.int .i64 0, .int .i64 0, .int .i64 0, .int .i64 0, .int .i64 0] 25) := Boxed.new _ _ _
  have H10 : Hid (Bxs 25 [(w9.heap.size, #[.int .i64 x0, .int .i64 x1, .int .i64 x2, .int .i64 x3, .int .i64 x4]), (gy, #[.int .i64 y0, .int .i64 y1, .int .i64 y2, .int .i64 y3, .int .i64 y4]), (gb, #[.int .i64 b0, .int .i64 b1, .int .i64 b2, .int .i64 b3, .int .i64 b4]), (gx, #[.int .i64 x0, .int .i64 x1, .int .i64 x2, .int .i64 x3, .int .i64 x4]), (ga, #[.int .i64 a0, .int .i64 a1, .int .i64 a2, .int .i64 a3, .int .i64 a4])] w ((w9.alloc (.cells #[.int .i64 0, .int .i64 0, .int .i64 0, .int .i64 0, .int .i64 0] 25)).setRow w9.heap.size #[.int .i64 x0, .int .i64 x1, .int .i64 x2, .int .i64 x3, .int .i64 x4])) := H9.out.store _ _
  go_upto_region 8 with (refine wpList_store_row rfl 25 (.tmp _) (.tmp _) rfl w9.heap.size #[.int .i64 x0, .int .i64 x1, .int .i64 x2, .int .i64 x3, .int .i64 x4] rfl rfl _ _ N.out (by kernel_rfl) rfl (peOnes _ _ _ _ _) ?_)
  generalize ((w9.alloc (.cells #[.int .i64 0, .int .i64 0, .int .i64 0, .int .i64 0, .int .i64 0] 25)).setRow w9.heap.size #[.int .i64 x0, .int .i64 x1, .int .i64 x2, .int .i64 x3, .int .i64 x4]) = w10 at H10 ⊢
  generalize w9.heap.size = gz at H10 ⊢
  clear N H9
  have cgz0 : w10.cell? ⟨gz, 0, none⟩ = some (.int .i64 x0) := (H10.out.at 0 rfl).cell 0 rfl
  have cgz1 : w10.cell? ⟨gz, 1, none⟩ = some (.int .i64 x1) := (H10.out.at 0 rfl).cell 1 rfl
  have cgz2 : w10.cell? ⟨gz, 2, none⟩ = some (.int .i64 x2) := (H10.out.at 0 rfl).cell 2 rfl
  have cgz3 : w10.cell? ⟨gz, 3, none⟩ = some (.int .i64 x3) := (H10.out.at 0 rfl).cell 3 rfl
  have cgz4 : w10.cell? ⟨gz, 4, none⟩ = some (.int .i64 x4) := (H10.out.at 0 rfl).cell 4 rfl
  have cgx0 : w10.cell? ⟨gx, 0, none⟩ = some (.int .i64 x0) := (H10.out.at 3 rfl).cell 0 rfl
  have cgx1 : w10.cell? ⟨gx, 1, none⟩ = some (.int .i64 x1) := (H10.out.at 3 rfl).cell 1 rfl
  have cgx2 : w10.cell? ⟨gx, 2, none⟩ = some (.int .i64 x2) := (H10.out.at 3 rfl).cell 2 rfl
  have cgx3 : w10.cell? ⟨gx, 3, none⟩ = some (.int .i64 x3) := (H10.out.at 3 rfl).cell 3 rfl
  have cgx4 : w10.cell? ⟨gx, 4, none⟩ = some (.int .i64 x4) := (H10.out.at 3 rfl).cell 4 rfl
  go_wp2_with ((refine wpList_load_row rfl 25 (.tmp 7) rfl gb rfl _ _ _ _ (H10.out.at 2 rfl) Try.underlying25 rfl (by kernel_rfl) ?_))
  clear cgz0 cgz1 cgz2 cgz3 cgz4 cgx0 cgx1 cgx2 cgx3 cgx4
  refine (D2.out _).mono ?_
  rintro e w11 ⟨rfl, q⟩
  have H11 : Hid (Bxs 25 [(gz, #[.int .i64 x0, .int .i64 x1, .int .i64 x2, .int .i64 x3, .int .i64 x4]), (gy, #[.int .i64 y0, .int .i64 y1, .int .i64 y2, .int .i64 y3, .int .i64 y4]), (gb, #[.int .i64 b0, .int .i64 b1, .int .i64 b2, .int .i64 b3, .int .i64 b4]), (gx, #[.int .i64 x0, .int .i64 x1, .int .i64 x2, .int .i64 x3, .int .i64 x4]), (ga, #[.int .i64 a0, .int .i64 a1, .int .i64 a2, .int .i64 a3, .int .i64 a4])] w w11) := H10.out.below q
  clear q H10 D2
  have N : Hid (Boxed (w11.alloc (.cells #[.int .i64 0, .int .i64 0, .int .i64 0, .int .i64 0, .int .i64 0] 25)) w11.heap.size #[.int .i64 0, .int .i64 0, .int .i64 0, .int .i64 0, .int .i64 0] 25) := Boxed.new _ _ _
  have H12 : Hid (Bxs 25 [(w11.heap.size, #[.int .i64 y0, .int .i64 y1, .int .i64 y2, .int .i64 y3, .int .i64 y4]), (gz, #[.int .i64 x0, .int .i64 x1, .int .i64 x2, .int .i64 x3, .int .i64 x4]), (gy, #[.int .i64 y0, .int .i64 y1, .int .i64 y2, .int .i64 y3, .int .i64 y4]), (gb, #[.int .i64 b0, .int .i64 b1, .int .i64 b2, .int .i64 b3, .int .i64 b4]), (gx, #[.int .i64 x0, .int .i64 x1, .int .i64 x2, .int .i64 x3, .int .i64 x4]), (ga, #[.int .i64 a0, .int .i64 a1, .int .i64 a2, .int .i64 a3, .int .i64 a4])] w ((w11.alloc (.cells #[.int .i64 0, .int .i64 0, .int .i64 0, .int .i64 0, .int .i64 0] 25)).setRow w11.heap.size #[.int .i64 y0, .int .i64 y1, .int .i64 y2, .int .i64 y3, .int .i64 y4])) := H11.out.store _ _
  go_upto_region 11 with (refine wpList_store_row rfl 25 (.tmp _) (.tmp _) rfl w11.heap.size #[.int .i64 y0, .int .i64 y1, .int .i64 y2, .int .i64 y3, .int .i64 y4] rfl rfl _ _ N.out (by kernel_rfl) rfl (peOnes _ _ _ _ _) ?_)
  generalize ((w11.alloc (.cells #[.int .i64 0, .int .i64 0, .int .i64 0, .int .i64 0, .int .i64 0] 25)).setRow w11.heap.size #[.int .i64 y0, .int .i64 y1, .int .i64 y2, .int .i64 y3, .int .i64 y4]) = w12 at H12 ⊢
  generalize w11.heap.size = gv at H12 ⊢
  clear N H11
  have cgv0 : w12.cell? ⟨gv, 0, none⟩ = some (.int .i64 y0) := (H12.out.at 0 rfl).cell 0 rfl
  have cgv1 : w12.cell? ⟨gv, 1, none⟩ = some (.int .i64 y1) := (H12.out.at 0 rfl).cell 1 rfl
  have cgv2 : w12.cell? ⟨gv, 2, none⟩ = some (.int .i64 y2) := (H12.out.at 0 rfl).cell 2 rfl
  have cgv3 : w12.cell? ⟨gv, 3, none⟩ = some (.int .i64 y3) := (H12.out.at 0 rfl).cell 3 rfl
  have cgv4 : w12.cell? ⟨gv, 4, none⟩ = some (.int .i64 y4) := (H12.out.at 0 rfl).cell 4 rfl
  have cgy0 : w12.cell? ⟨gy, 0, none⟩ = some (.int .i64 y0) := (H12.out.at 2 rfl).cell 0 rfl
  have cgy1 : w12.cell? ⟨gy, 1, none⟩ = some (.int .i64 y1) := (H12.out.at 2 rfl).cell 1 rfl
  have cgy2 : w12.cell? ⟨gy, 2, none⟩ = some (.int .i64 y2) := (H12.out.at 2 rfl).cell 2 rfl
  have cgy3 : w12.cell? ⟨gy, 3, none⟩ = some (.int .i64 y3) := (H12.out.at 2 rfl).cell 3 rfl
  have cgy4 : w12.cell? ⟨gy, 4, none⟩ = some (.int .i64 y4) := (H12.out.at 2 rfl).cell 4 rfl
  obtain ⟨g, hg, P1⟩ := lawPickD (cap := cap) hc 1 9 (by omega) (by omega) (by omega) (by omega)
  obtain ⟨s, hs, P2⟩ := lawPickD (cap := cap) hc 2 20 (by omega) (by omega) (by omega) (by omega)
  have P1' : Hid _ := P1
  have P2' : Hid _ := P2
  clear P1 P2
  have B0 : Hid (Below w.heap.size w w12) := H12.out.bel
  go_wp2_with fail
  refine (P1'.out _ B0).mono ?_
  rintro e w' ⟨rfl, hw⟩
  have hw := hw.symm
  subst hw
  clear cgv0 cgv1 cgv2 cgv3 cgv4 cgy0 cgy1 cgy2 cgy3 cgy4
  go_wp2_with fail
  refine (P2'.out _ B0).mono ?_
  rintro e w' ⟨rfl, hw⟩
  have hw := hw.symm
  subst hw
  have N : Hid (Boxed (w12.alloc (.cells #[.int .i64 0, .int .i64 0, .int .i64 0, .int .i64 0, .int .i64 0] 25)) w12.heap.size #[.int .i64 0, .int .i64 0, .int .i64 0, .int .i64 0, .int .i64 0] 25) := Boxed.new _ _ _
  have G0 : Hid (GcS w w12.heap.size ⟨1 + g, s, 0, 0, 0⟩ 0 0 0 ((w12.alloc (.cells #[.int .i64 0, .int .i64 0, .int .i64 0, .int .i64 0, .int .i64 0] 25)).setRow w12.heap.size #[.int .i64 (1 + g), .int .i64 s, .int .i64 0, .int .i64 0, .int .i64 0])) := by
    have hb := B0.out.size
    refine ⟨below_setRow (B0.out.alloc hb _) hb _, hb, setRow_heap _ _ _ _ _ _ N.out, ⟨?_, ?_, ?_, ?_, ?_, ?_, ?_⟩, by omega, by omega, by omega, by show 1 + g ≤ 9; omega, by show 0 ≤ s ∧ s ≤ 19; omega⟩
    · rw [Pe.ok_iff]; simp only; omega
    · simp only; omega
    · simp only; omega
    · simp only; omega
    · simp only; omega
    · omega
    · simp only; omega
  go_upto_region 14 with (refine wpList_store_row rfl 25 (.tmp _) (.tmp _) rfl w12.heap.size #[.int .i64 (1 + g), .int .i64 s, .int .i64 0, .int .i64 0, .int .i64 0] rfl rfl _ _ N.out (by kernel_rfl) rfl (peOnes _ _ _ _ _) ?_)
  generalize ((w12.alloc (.cells #[.int .i64 0, .int .i64 0, .int .i64 0, .int .i64 0, .int .i64 0] 25)).setRow w12.heap.size #[.int .i64 (1 + g), .int .i64 s, .int .i64 0, .int .i64 0, .int .i64 0]) = wl at G0 ⊢
  generalize w12.heap.size = gp at G0 ⊢
  clear N B0 H12 P1' P2' hg
  go_wp2
  go_loopw [16, 17, 18, 19, 20, 21, 22] (fun nv sv iv _ _ _ _ wr => ∃ (p : Pe) (k : Nat) (now sum : Int), k ≤ 40 ∧ nv = .int .i64 now ∧ sv = .int .i64 sum ∧ iv = .int .i64 k ∧ Hid (GcS w gp p k now sum wr)) (fun _ _ iv _ _ _ _ _ => 40 - (intOf iv).toNat)
  case atStart => exact ⟨_, 0, 0, 0, by omega, rfl, rfl, rfl, G0.out⟩
  case round =>
    obtain ⟨⟨p0, p1, p2, p3, p4⟩, k, now, sum, hk, rfl, rfl, rfl, HG⟩ := hrel
    clear G0
    by_cases hlt : k < 40
    · obtain ⟨x, hx, P⟩ := lawPickD (cap := cap) hc (10 + (k : Int)) 12 (by omega) (by omega) (by omega) (by omega)
      have P' : Hid _ := P
      have B0 : Hid (Below w.heap.size w wr) := HG.out.bel
      have h0 := HG.out.now0
      have h1 := HG.out.now1
      clear P
      have hkk : (k : Int) < 40 := by omega
      have w10 : IntKind.i64.wrap (10 + (k : Int)) = 10 + (k : Int) := by rw [IntKind.wrap_i64]; omega
      have wnw : IntKind.i64.wrap (now + x) = now + x := by rw [IntKind.wrap_i64]; omega
      go_wp2_with fail
      refine (P'.out _ B0).mono ?_
      rintro e w' ⟨rfl, hw⟩
      have hw := hw.symm
      subst hw
      obtain ⟨nw, hnw⟩ : ∃ n, now + x = n := ⟨_, rfl⟩
      have M := same_next (p := (Pe.mk p0 p1 p2 p3 p4)) (now' := nw) HG.out.same (by omega) (by omega) h0
      have hn1 : nw ≤ 12 * ((k + 1 : Nat) : Int) := by omega
      have hn0 : 0 ≤ nw := by omega
      have wn2 : IntKind.i64.wrap (now + x) = nw := by rw [wnw, hnw]
      clear wnw
      obtain ⟨r, hr⟩ : ∃ r, r = Pe.early (Pe.mk p0 p1 p2 p3 p4) nw := ⟨_, rfl⟩
      obtain ⟨l, hl⟩ : ∃ r, r = Pe.leaky (Pe.mk p0 p1 p2 p3 p4) nw := ⟨_, rfl⟩
      obtain ⟨eb, heb⟩ : ∃ r, r = Pe.earlyB (Pe.mk p0 p1 p2 p3 p4) nw := ⟨_, rfl⟩
      have C := fun w => implEarly (Pe.mk p0 p1 p2 p3 p4) nw w
      have D := fun w => implLeaky (Pe.mk p0 p1 p2 p3 p4) nw w
      unfold Pe.both at M
      rw [← M.1, ← hl, ← heb] at D
      rw [← hr, ← heb] at C
      rw [← hr, ← hl, ← heb] at M
      clear hr hl heb hnw
      obtain ⟨r0, r1, r2, r3, r4⟩ := r
      obtain ⟨l0, l1, l2, l3, l4⟩ := l
      simp only [Pe.val] at C D M
      have C' : Hid _ := C
      have D' : Hid _ := D
      have HM : Hid (Same (Pe.mk p0 p1 r2 l3 l4) nw (if eb = true then sum + 1 else sum)) := M.2
      have HN : Hid (0 ≤ nw ∧ nw ≤ 12 * ((k + 1 : Nat) : Int)) := ⟨hn0, hn1⟩
      clear C D M hn0 hn1 h0 h1 hx w10 P' B0
      have R0 : Hid (Boxed wr gp #[.int .i64 p0, .int .i64 p1, .int .i64 p2, .int .i64 p3, .int .i64 p4] 25 ∧ Below w.heap.size w wr ∧ w.heap.size ≤ gp) := ⟨HG.out.box, HG.out.bel, HG.out.le⟩
      have R5 : Hid ((0 ≤ sum ∧ sum ≤ k) ∧ (p0 ≤ 9 ∧ (0 ≤ p1 ∧ p1 ≤ 19))) := ⟨⟨HG.out.same.sum0, HG.out.sum1⟩, HG.out.gap9, HG.out.slack⟩
      go_wp2_with (refine wpList_load_row rfl 25 (.tmp _) rfl gp rfl _ _ _ _ R0.out.1 Try.underlying25 rfl (by kernel_rfl) ?_)
      clear wn2
      refine (C'.out _).mono ?_
      rintro e w1 ⟨rfl, q⟩
      have R1 : Hid (Boxed w1 gp #[.int .i64 p0, .int .i64 p1, .int .i64 p2, .int .i64 p3, .int .i64 p4] 25 ∧ Below w.heap.size w w1 ∧ w.heap.size ≤ gp) := ⟨R0.out.1.below R0.out.1.under q, R0.out.2.1.trans (q.mono R0.out.2.1.size), R0.out.2.2⟩
      clear q R0 HG
      have N : Hid (Boxed (w1.alloc (.cells #[.int .i64 0, .int .i64 0, .int .i64 0, .int .i64 0, .int .i64 0] 25)) w1.heap.size #[.int .i64 0, .int .i64 0, .int .i64 0, .int .i64 0, .int .i64 0] 25) := Boxed.new _ _ _
      have R2 : Hid (Boxed ((w1.alloc (.cells #[.int .i64 0, .int .i64 0, .int .i64 0, .int .i64 0, .int .i64 0] 25)).setRow w1.heap.size #[.int .i64 r0, .int .i64 r1, .int .i64 r2, .int .i64 r3, .int .i64 r4]) gp #[.int .i64 p0, .int .i64 p1, .int .i64 p2, .int .i64 p3, .int .i64 p4] 25 ∧ Below w.heap.size w ((w1.alloc (.cells #[.int .i64 0, .int .i64 0, .int .i64 0, .int .i64 0, .int .i64 0] 25)).setRow w1.heap.size #[.int .i64 r0, .int .i64 r1, .int .i64 r2, .int .i64 r3, .int .i64 r4]) ∧ w.heap.size ≤ gp ∧ Boxed ((w1.alloc (.cells #[.int .i64 0, .int .i64 0, .int .i64 0, .int .i64 0, .int .i64 0] 25)).setRow w1.heap.size #[.int .i64 r0, .int .i64 r1, .int .i64 r2, .int .i64 r3, .int .i64 r4]) w1.heap.size #[.int .i64 r0, .int .i64 r1, .int .i64 r2, .int .i64 r3, .int .i64 r4] 25 ∧ gp < w1.heap.size) := by
        have h1 := R1.out.1.under
        have h2 := R1.out.2.1.size
        exact ⟨(setRow_other _ _ _ _ (by omega)).trans (R1.out.1.more _), below_setRow (R1.out.2.1.alloc h2 _) h2 _, R1.out.2.2, setRow_heap _ _ _ _ _ _ N.out, h1⟩
      go_wp2_with (first | (refine wpList_store_row rfl 25 (.tmp _) (.tmp _) rfl w1.heap.size #[.int .i64 r0, .int .i64 r1, .int .i64 r2, .int .i64 r3, .int .i64 r4] rfl rfl _ _ N.out (by kernel_rfl) rfl (peOnes _ _ _ _ _) ?_) | (refine wpList_load_row rfl 25 (.tmp _) rfl gp rfl _ _ _ _ R2.out.1 Try.underlying25 rfl (by kernel_rfl) ?_))
      generalize ((w1.alloc (.cells #[.int .i64 0, .int .i64 0, .int .i64 0, .int .i64 0, .int .i64 0] 25)).setRow w1.heap.size #[.int .i64 r0, .int .i64 r1, .int .i64 r2, .int .i64 r3, .int .i64 r4]) = w2 at R2 ⊢
      generalize w1.heap.size = ge at R2 ⊢
      clear N R1
      refine (D'.out _).mono ?_
      rintro e w3 ⟨rfl, q⟩
      have R3 : Hid (Boxed w3 gp #[.int .i64 p0, .int .i64 p1, .int .i64 p2, .int .i64 p3, .int .i64 p4] 25 ∧ Below w.heap.size w w3 ∧ w.heap.size ≤ gp ∧ Boxed w3 ge #[.int .i64 r0, .int .i64 r1, .int .i64 r2, .int .i64 r3, .int .i64 r4] 25 ∧ gp < ge) := ⟨R2.out.1.below R2.out.1.under q, R2.out.2.1.trans (q.mono R2.out.2.1.size), R2.out.2.2.1, R2.out.2.2.2.1.below R2.out.2.2.2.1.under q, R2.out.2.2.2.2⟩
      clear q R2
      have N : Hid (Boxed (w3.alloc (.cells #[.int .i64 0, .int .i64 0, .int .i64 0, .int .i64 0, .int .i64 0] 25)) w3.heap.size #[.int .i64 0, .int .i64 0, .int .i64 0, .int .i64 0, .int .i64 0] 25) := Boxed.new _ _ _
      have R4 : Hid (Boxed ((w3.alloc (.cells #[.int .i64 0, .int .i64 0, .int .i64 0, .int .i64 0, .int .i64 0] 25)).setRow w3.heap.size #[.int .i64 l0, .int .i64 l1, .int .i64 l2, .int .i64 l3, .int .i64 l4]) gp #[.int .i64 p0, .int .i64 p1, .int .i64 p2, .int .i64 p3, .int .i64 p4] 25 ∧ Below w.heap.size w ((w3.alloc (.cells #[.int .i64 0, .int .i64 0, .int .i64 0, .int .i64 0, .int .i64 0] 25)).setRow w3.heap.size #[.int .i64 l0, .int .i64 l1, .int .i64 l2, .int .i64 l3, .int .i64 l4]) ∧ w.heap.size ≤ gp ∧ Boxed ((w3.alloc (.cells #[.int .i64 0, .int .i64 0, .int .i64 0, .int .i64 0, .int .i64 0] 25)).setRow w3.heap.size #[.int .i64 l0, .int .i64 l1, .int .i64 l2, .int .i64 l3, .int .i64 l4]) ge #[.int .i64 r0, .int .i64 r1, .int .i64 r2, .int .i64 r3, .int .i64 r4] 25 ∧ gp < ge ∧ Boxed ((w3.alloc (.cells #[.int .i64 0, .int .i64 0, .int .i64 0, .int .i64 0, .int .i64 0] 25)).setRow w3.heap.size #[.int .i64 l0, .int .i64 l1, .int .i64 l2, .int .i64 l3, .int .i64 l4]) w3.heap.size #[.int .i64 l0, .int .i64 l1, .int .i64 l2, .int .i64 l3, .int .i64 l4] 25 ∧ ge < w3.heap.size) := by
        have h1 := R3.out.1.under
        have h2 := R3.out.2.1.size
        have h3 := R3.out.2.2.2.1.under
        exact ⟨(setRow_other _ _ _ _ (by omega)).trans (R3.out.1.more _), below_setRow (R3.out.2.1.alloc h2 _) h2 _, R3.out.2.2.1, (setRow_other _ _ _ _ (by omega)).trans (R3.out.2.2.2.1.more _), R3.out.2.2.2.2, setRow_heap _ _ _ _ _ _ N.out, h3⟩
      go_upto_region 22 with (refine wpList_store_row rfl 25 (.tmp _) (.tmp _) rfl w3.heap.size #[.int .i64 l0, .int .i64 l1, .int .i64 l2, .int .i64 l3, .int .i64 l4] rfl rfl _ _ N.out (by kernel_rfl) rfl (peOnes _ _ _ _ _) ?_)
      generalize ((w3.alloc (.cells #[.int .i64 0, .int .i64 0, .int .i64 0, .int .i64 0, .int .i64 0] 25)).setRow w3.heap.size #[.int .i64 l0, .int .i64 l1, .int .i64 l2, .int .i64 l3, .int .i64 l4]) = w4 at R4 ⊢
      generalize w3.heap.size = gl at R4 ⊢
      clear N R3
      have c1 : w4.cell? ⟨ge, 2, none⟩ = some (.int .i64 r2) := R4.out.2.2.2.1.cell 2 rfl
      have d1 : w4.cell? ⟨gp, 2, none⟩ = some (.int .i64 p2) := R4.out.1.cell 2 rfl
      have z1 := R4.out.1.ice 2
      have u1 : gp < w4.heap.size := R4.out.1.under
      go_upto_region 25 with fail
      have R6 : Hid (Boxed (w4.setCell ⟨gp, 2, none⟩ (.int .i64 r2)) gp #[.int .i64 p0, .int .i64 p1, .int .i64 r2, .int .i64 p3, .int .i64 p4] 25 ∧ Below w.heap.size w (w4.setCell ⟨gp, 2, none⟩ (.int .i64 r2)) ∧ Boxed (w4.setCell ⟨gp, 2, none⟩ (.int .i64 r2)) gl #[.int .i64 l0, .int .i64 l1, .int .i64 l2, .int .i64 l3, .int .i64 l4] 25 ∧ w.heap.size ≤ gp ∧ gp < gl) := by
        have h1 := R4.out.2.2.2.2.1
        have h2 := R4.out.2.2.2.2.2.2
        exact ⟨R4.out.1.put 2 _, R4.out.2.1.setCell (by show w.heap.size ≤ gp; exact R4.out.2.2.1) _, R4.out.2.2.2.2.2.1.far (by omega) 2 _, R4.out.2.2.1, by omega⟩
      generalize w4.setCell ⟨gp, 2, none⟩ (.int .i64 r2) = w5 at R6 ⊢
      clear c1 d1 z1 u1 R4
      have c1 : w5.cell? ⟨gl, 3, none⟩ = some (.int .i64 l3) := R6.out.2.2.1.cell 3 rfl
      have d1 : w5.cell? ⟨gp, 3, none⟩ = some (.int .i64 p3) := R6.out.1.cell 3 rfl
      have z1 := R6.out.1.ice 3
      have u1 : gp < w5.heap.size := R6.out.1.under
      go_upto_region 26 with fail
      have R7 : Hid (Boxed (w5.setCell ⟨gp, 3, none⟩ (.int .i64 l3)) gp #[.int .i64 p0, .int .i64 p1, .int .i64 r2, .int .i64 l3, .int .i64 p4] 25 ∧ Below w.heap.size w (w5.setCell ⟨gp, 3, none⟩ (.int .i64 l3)) ∧ Boxed (w5.setCell ⟨gp, 3, none⟩ (.int .i64 l3)) gl #[.int .i64 l0, .int .i64 l1, .int .i64 l2, .int .i64 l3, .int .i64 l4] 25 ∧ w.heap.size ≤ gp ∧ gp < gl) := by
        have h2 := R6.out.2.2.2.2
        exact ⟨R6.out.1.put 3 _, R6.out.2.1.setCell (by show w.heap.size ≤ gp; exact R6.out.2.2.2.1) _, R6.out.2.2.1.far (by omega) 3 _, R6.out.2.2.2.1, h2⟩
      generalize w5.setCell ⟨gp, 3, none⟩ (.int .i64 l3) = w6 at R7 ⊢
      clear c1 d1 z1 u1 R6
      have c1 : w6.cell? ⟨gl, 4, none⟩ = some (.int .i64 l4) := R7.out.2.2.1.cell 4 rfl
      have d1 : w6.cell? ⟨gp, 4, none⟩ = some (.int .i64 p4) := R7.out.1.cell 4 rfl
      have z1 := R7.out.1.ice 4
      have u1 : gp < w6.heap.size := R7.out.1.under
      go_upto_region 27 with fail
      have R8 : Hid (Boxed (w6.setCell ⟨gp, 4, none⟩ (.int .i64 l4)) gp #[.int .i64 p0, .int .i64 p1, .int .i64 r2, .int .i64 l3, .int .i64 l4] 25 ∧ Below w.heap.size w (w6.setCell ⟨gp, 4, none⟩ (.int .i64 l4)) ∧ w.heap.size ≤ gp) :=
        ⟨R7.out.1.put 4 _, R7.out.2.1.setCell (by show w.heap.size ≤ gp; exact R7.out.2.2.2.1) _, R7.out.2.2.2.1⟩
      generalize w6.setCell ⟨gp, 4, none⟩ (.int .i64 l4) = w7 at R8 ⊢
      clear c1 d1 z1 u1 R7
      have c0 : w7.cell? ⟨gp, 0, none⟩ = some (.int .i64 p0) := R8.out.1.cell 0 rfl
      have c1 : w7.cell? ⟨gp, 1, none⟩ = some (.int .i64 p1) := R8.out.1.cell 1 rfl
      have hs5 := R5.out
      have hn5 := HN.out
      have few := HM.out.few
      have hp1 := (Pe.ok_iff.1 HM.out.ok).1.1
      simp only at few hp1
      cases eb
      · have e1 : (if false = true then sum + 1 else sum) = sum := rfl
        rw [e1] at few HM
        have hm0 : -9 ≤ (sum - 1) * p0 ∧ (sum - 1) * p0 ≤ 360 := gc_small (by omega) (by omega) (by omega) (by omega)
        have k1 : IntKind.i64.wrap (sum - 1) = sum - 1 := by rw [IntKind.wrap_i64]; omega
        have k2 : IntKind.i64.wrap ((sum - 1) * p0) = (sum - 1) * p0 := by rw [IntKind.wrap_i64]; omega
        have k3 : IntKind.i64.wrap (p1 + nw) = p1 + nw := by rw [IntKind.wrap_i64]; omega
        have k4 : ¬ p1 + nw < (sum - 1) * p0 := by omega
        clear few hm0 e1 hs5 hn5 hp1
        go_wp2_with fail
        go_roundw
        case rel => exact ⟨⟨p0, p1, r2, l3, l4⟩, k + 1, nw, sum, by omega, rfl, rfl, by go_num, ⟨R8.out.2.1, R8.out.2.2, R8.out.1, HM.out, HN.out.1, HN.out.2, by have := R5.out; omega, R5.out.2.1, R5.out.2.2⟩⟩
        case measure => simp [intOf]; omega
      · have e1 : (if true = true then sum + 1 else sum) = sum + 1 := rfl
        rw [e1] at few HM
        have e2 : sum + 1 - 1 = sum := by omega
        rw [e2] at few
        have hm0 : -9 ≤ sum * p0 ∧ sum * p0 ≤ 360 := gc_small (by omega) (by omega) (by omega) (by omega)
        have k0 : IntKind.i64.wrap (sum + 1) = sum + 1 := by rw [IntKind.wrap_i64]; omega
        have k1 : IntKind.i64.wrap sum = sum := by rw [IntKind.wrap_i64]; omega
        have k2 : IntKind.i64.wrap (sum * p0) = sum * p0 := by rw [IntKind.wrap_i64]; omega
        have k3 : IntKind.i64.wrap (p1 + nw) = p1 + nw := by rw [IntKind.wrap_i64]; omega
        have k4 : ¬ p1 + nw < sum * p0 := by omega
        clear e2
        clear few hm0 e1 hs5 hn5 hp1
        go_wp2_with fail
        go_roundw
        case rel => exact ⟨⟨p0, p1, r2, l3, l4⟩, k + 1, nw, sum + 1, by omega, rfl, rfl, by go_num, ⟨R8.out.2.1, R8.out.2.2, R8.out.1, HM.out, HN.out.1, HN.out.2, by have := R5.out; omega, R5.out.2.1, R5.out.2.2⟩⟩
        case measure => simp [intOf]; omega
    · go_wp2
      go_ret
      exact ⟨rfl, HG.out.bel⟩
end Go.Proofs.Ytkdofeanpcbihaa

/-
  The walk of FnPurses, the program's contracts given. By the verifier, by program.
-/
import Derived.Test.YtkdofeanpcbihaaPzDrawF
import Derived.Test.YtkdofeanpcbihaaPzDrawS
import Derived.Test.YtkdofeanpcbihaaPzDrawW
import Derived.Test.YtkdofeanpcbihaaPzSpec
import Derived.Test.YtkdofeanpcbihaaPzFacts
import Derived.Test.YtkdofeanpcbihaaPickD
import Derived.Test.YtkdofeanpcbihaaQuiet
import Derived.Test.YtkdofeanpcbihaaBxs
import Derived.BigQuiet
namespace Go.Proofs.Ytkdofeanpcbihaa
open Go.RowKit

theorem when_le {p : Pz} {n : Int} : p.when n ≤ 1099511627776 := by
  unfold Pz.when
  split
  · next h =>
    have g := Pz.ok_iff.1 h.1
    unfold Pz.whenL
    split
    · omega
    · split
      · omega
      · split <;> omega
  · omega
/-- The level of a purse that is no variable. -/
theorem pzLevel (h0 h1 h2 h3 : Int) (w : World) : (Instr.field 32 (.agg #[.int .i64 h0, .int .i64 h1, .int .i64 h2, .int .i64 h3]) 2).run Try.prog w = .ok (.int .i64 h2) w := by rfl
set_option maxHeartbeats 6400000 in
set_option maxRecDepth 100000 in
theorem fnPurses_law
    (IF : ∀ (l : Pz) (now : Int) (w : World), Calls Try.prog 14 #[l.val, .int .i64 now] w fun e w' => e = .returned (l.filled now).val ∧ Below w.heap.size w w')
    (IS : ∀ (l : Pz) (now n : Int) (w : World), -9223372036854775808 ≤ n → Calls Try.prog 16 #[l.val, .int .i64 now, .int .i64 n] w fun e w' => e = .returned (.tuple #[(l.spent now n).val, .bool (l.spentB now n)]) ∧ Below w.heap.size w w')
    (IW : ∀ (l : Pz) (n : Int) (w : World), n ≤ 9223372036854775807 → Calls Try.prog 18 #[l.val, .int .i64 n] w fun e w' => e = .returned (.int .i64 (l.when n)) ∧ Below w.heap.size w w')
    (IK : ∀ (l : Pz) (w : World), Calls Try.prog 22 #[l.val] w fun e w' => e = .returned (.bool l.ok) ∧ Below w.heap.size w w')
    (a : Option Addr) (len cap : Nat) (w : World)
    (hcode : ∀ k, k < len → ∃ b off z, a = some ⟨b, off, none⟩ ∧ b < w.heap.size ∧ w.cell? ⟨b, off + k, none⟩ = some (.int .u8 z) ∧ 0 ≤ z ∧ z ≤ 255) :
    Calls Try.prog 4 #[.slice a len cap] w fun e w' => e = .returned (.bool true) ∧ Below w.heap.size w w' := by
  by_cases hbig : 4096 < len
  · clear hcode
    go_enter Try.func4, Try.ntmps4
    go_wp2
    go_ret
    exact ⟨rfl, Below.refl _ _⟩
  have hc : Hid (Code w a len) := ⟨by omega, hcode⟩
  have hb : Hid (Below w.heap.size w w) := Below.refl _ _
  have IF' : Hid _ := IF
  have IS' : Hid _ := IS
  have IW' : Hid _ := IW
  have IK' : Hid _ := IK
  clear hcode IF IS IW IK
  go_enter Try.func4, Try.ntmps4
  go_wp2_with (go_at_call 5; go_in)
  refine (dDrawFilled hc _ hb).mono ?_
  rintro e w1 ⟨⟨⟨p0, p1, p2, p3⟩, now, rfl, hp, hnow⟩, q⟩
  have H1 : Hid (Bxs 32 [] w w1) := ⟨q, fun _ _ h => by cases h⟩
  have Fp : Hid ((Pz.mk p0 p1 p2 p3).drawn ∧ (-1 ≤ now ∧ now ≤ 4611686018427387904)) := ⟨hp, hnow⟩
  clear q hp hnow hb
  simp only [Pz.val]
  have N : Hid (Boxed (w1.alloc (.cells #[.int .i64 0, .int .i64 0, .int .i64 0, .int .i64 0] 32)) w1.heap.size #[.int .i64 0, .int .i64 0, .int .i64 0, .int .i64 0] 32) := Boxed.new _ _ _
  have H2 : Hid (Bxs 32 [(w1.heap.size, #[.int .i64 p0, .int .i64 p1, .int .i64 p2, .int .i64 p3])] w ((w1.alloc (.cells #[.int .i64 0, .int .i64 0, .int .i64 0, .int .i64 0] 32)).setRow w1.heap.size #[.int .i64 p0, .int .i64 p1, .int .i64 p2, .int .i64 p3])) := H1.out.store _ _
  go_wp2_with (first | (refine wpList_store_row rfl 32 (.tmp _) (.tmp _) rfl w1.heap.size #[.int .i64 p0, .int .i64 p1, .int .i64 p2, .int .i64 p3] rfl rfl _ _ N.out (by kernel_rfl) rfl (pzOnes _ _ _ _) ?_) | (refine wpList_load_row rfl 32 (.tmp _) rfl w1.heap.size rfl _ _ _ _ (H2.out.at 0 rfl) Try.underlying32 rfl (by kernel_rfl) ?_))
  generalize ((w1.alloc (.cells #[.int .i64 0, .int .i64 0, .int .i64 0, .int .i64 0] 32)).setRow w1.heap.size #[.int .i64 p0, .int .i64 p1, .int .i64 p2, .int .i64 p3]) = w2 at H2 ⊢
  generalize w1.heap.size = gp at H2 ⊢
  clear N H1
  obtain ⟨f, hf⟩ : ∃ f, f = Pz.filled (Pz.mk p0 p1 p2 p3) now := ⟨_, rfl⟩
  have C := fun w => IF'.out (Pz.mk p0 p1 p2 p3) now w
  rw [← hf] at C
  obtain ⟨f0, f1, f2, f3⟩ := f
  have Hf : Hid ((Pz.mk f0 f1 f2 f3) = _) := hf
  have C' : Hid _ := C
  clear hf C
  simp only [Pz.val] at C'
  refine (C'.out _).mono ?_
  rintro e w3 ⟨rfl, q⟩
  have H3 : Hid (Bxs 32 [(gp, #[.int .i64 p0, .int .i64 p1, .int .i64 p2, .int .i64 p3])] w w3) := H2.out.below q
  clear q H2
  clear C'
  have N : Hid (Boxed (w3.alloc (.cells #[.int .i64 0, .int .i64 0, .int .i64 0, .int .i64 0] 32)) w3.heap.size #[.int .i64 0, .int .i64 0, .int .i64 0, .int .i64 0] 32) := Boxed.new _ _ _
  have H4 : Hid (Bxs 32 [(w3.heap.size, #[.int .i64 f0, .int .i64 f1, .int .i64 f2, .int .i64 f3]), (gp, #[.int .i64 p0, .int .i64 p1, .int .i64 p2, .int .i64 p3])] w ((w3.alloc (.cells #[.int .i64 0, .int .i64 0, .int .i64 0, .int .i64 0] 32)).setRow w3.heap.size #[.int .i64 f0, .int .i64 f1, .int .i64 f2, .int .i64 f3])) := H3.out.store _ _
  go_wp2_with (first | (refine wpList_store_row rfl 32 (.tmp _) (.tmp _) rfl w3.heap.size #[.int .i64 f0, .int .i64 f1, .int .i64 f2, .int .i64 f3] rfl rfl _ _ N.out (by kernel_rfl) rfl (pzOnes _ _ _ _) ?_) | (refine wpList_load_row rfl 32 (.tmp _) rfl w3.heap.size rfl _ _ _ _ (H4.out.at 0 rfl) Try.underlying32 rfl (by kernel_rfl) ?_) | (refine wpList_load_row rfl 32 (.tmp _) rfl gp rfl _ _ _ _ (H4.out.at 1 rfl) Try.underlying32 rfl (by kernel_rfl) ?_))
  generalize ((w3.alloc (.cells #[.int .i64 0, .int .i64 0, .int .i64 0, .int .i64 0] 32)).setRow w3.heap.size #[.int .i64 f0, .int .i64 f1, .int .i64 f2, .int .i64 f3]) = w4 at H4 ⊢
  generalize w3.heap.size = gf at H4 ⊢
  clear N H3
  refine (dDrawSpent hc _ (hid_bel H4)).mono ?_
  rintro e w5 ⟨⟨⟨a0, a1, a2, a3⟩, t, n, rfl, ha, ht, hn⟩, q⟩
  have H5 : Hid (Bxs 32 [(gf, #[.int .i64 f0, .int .i64 f1, .int .i64 f2, .int .i64 f3]), (gp, #[.int .i64 p0, .int .i64 p1, .int .i64 p2, .int .i64 p3])] w w5) := H4.out.below q
  clear q H4
  have Fa : Hid ((Pz.mk a0 a1 a2 a3).drawn ∧ (-1 ≤ t ∧ t ≤ 4611686018427387904) ∧ (-1 ≤ n ∧ n ≤ 50)) := ⟨ha, ht, hn⟩
  clear ha ht hn
  simp only [Pz.val]
  have N : Hid (Boxed (w5.alloc (.cells #[.int .i64 0, .int .i64 0, .int .i64 0, .int .i64 0] 32)) w5.heap.size #[.int .i64 0, .int .i64 0, .int .i64 0, .int .i64 0] 32) := Boxed.new _ _ _
  have H6 : Hid (Bxs 32 [(w5.heap.size, #[.int .i64 a0, .int .i64 a1, .int .i64 a2, .int .i64 a3]), (gf, #[.int .i64 f0, .int .i64 f1, .int .i64 f2, .int .i64 f3]), (gp, #[.int .i64 p0, .int .i64 p1, .int .i64 p2, .int .i64 p3])] w ((w5.alloc (.cells #[.int .i64 0, .int .i64 0, .int .i64 0, .int .i64 0] 32)).setRow w5.heap.size #[.int .i64 a0, .int .i64 a1, .int .i64 a2, .int .i64 a3])) := H5.out.store _ _
  go_wp2_with (first | (refine wpList_store_row rfl 32 (.tmp _) (.tmp _) rfl w5.heap.size #[.int .i64 a0, .int .i64 a1, .int .i64 a2, .int .i64 a3] rfl rfl _ _ N.out (by kernel_rfl) rfl (pzOnes _ _ _ _) ?_) | (refine wpList_load_row rfl 32 (.tmp _) rfl w5.heap.size rfl _ _ _ _ (H6.out.at 0 rfl) Try.underlying32 rfl (by kernel_rfl) ?_) | (refine wpList_load_row rfl 32 (.tmp _) rfl gf rfl _ _ _ _ (H6.out.at 1 rfl) Try.underlying32 rfl (by kernel_rfl) ?_) | (refine wpList_load_row rfl 32 (.tmp _) rfl gp rfl _ _ _ _ (H6.out.at 2 rfl) Try.underlying32 rfl (by kernel_rfl) ?_))
  generalize ((w5.alloc (.cells #[.int .i64 0, .int .i64 0, .int .i64 0, .int .i64 0] 32)).setRow w5.heap.size #[.int .i64 a0, .int .i64 a1, .int .i64 a2, .int .i64 a3]) = w6 at H6 ⊢
  generalize w5.heap.size = ga at H6 ⊢
  clear N H5
  obtain ⟨s, hs⟩ : ∃ s, s = Pz.spent (Pz.mk a0 a1 a2 a3) t n := ⟨_, rfl⟩
  obtain ⟨bs, hbs⟩ : ∃ s, s = Pz.spentB (Pz.mk a0 a1 a2 a3) t n := ⟨_, rfl⟩
  have C := fun w => IS'.out (Pz.mk a0 a1 a2 a3) t n w (by have := Fa.out.2.2; omega)
  have D := fun w => specSpent (Pz.mk a0 a1 a2 a3) t n w (by have := Fa.out.2.2; omega)
  rw [← hs, ← hbs] at C D
  obtain ⟨s0, s1, s2, s3⟩ := s
  have Hs : Hid ((Pz.mk s0 s1 s2 s3) = _) := hs
  have Hbs : Hid (bs = _) := hbs
  have C' : Hid _ := C
  have D' : Hid _ := D
  clear hs hbs C D
  simp only [Pz.val] at C' D'
  refine (C'.out _).mono ?_
  rintro e w7 ⟨rfl, q⟩
  have H7 : Hid (Bxs 32 [(ga, #[.int .i64 a0, .int .i64 a1, .int .i64 a2, .int .i64 a3]), (gf, #[.int .i64 f0, .int .i64 f1, .int .i64 f2, .int .i64 f3]), (gp, #[.int .i64 p0, .int .i64 p1, .int .i64 p2, .int .i64 p3])] w w7) := H6.out.below q
  clear q H6
  clear C'
  have N : Hid (Boxed (w7.alloc (.cells #[.int .i64 0, .int .i64 0, .int .i64 0, .int .i64 0] 32)) w7.heap.size #[.int .i64 0, .int .i64 0, .int .i64 0, .int .i64 0] 32) := Boxed.new _ _ _
  have H8 : Hid (Bxs 32 [(w7.heap.size, #[.int .i64 s0, .int .i64 s1, .int .i64 s2, .int .i64 s3]), (ga, #[.int .i64 a0, .int .i64 a1, .int .i64 a2, .int .i64 a3]), (gf, #[.int .i64 f0, .int .i64 f1, .int .i64 f2, .int .i64 f3]), (gp, #[.int .i64 p0, .int .i64 p1, .int .i64 p2, .int .i64 p3])] w ((w7.alloc (.cells #[.int .i64 0, .int .i64 0, .int .i64 0, .int .i64 0] 32)).setRow w7.heap.size #[.int .i64 s0, .int .i64 s1, .int .i64 s2, .int .i64 s3])) := H7.out.store _ _
  go_wp2_with (first | (refine wpList_store_row rfl 32 (.tmp _) (.tmp _) rfl w7.heap.size #[.int .i64 s0, .int .i64 s1, .int .i64 s2, .int .i64 s3] rfl rfl _ _ N.out (by kernel_rfl) rfl (pzOnes _ _ _ _) ?_) | (refine wpList_load_row rfl 32 (.tmp _) rfl w7.heap.size rfl _ _ _ _ (H8.out.at 0 rfl) Try.underlying32 rfl (by kernel_rfl) ?_) | (refine wpList_load_row rfl 32 (.tmp _) rfl ga rfl _ _ _ _ (H8.out.at 1 rfl) Try.underlying32 rfl (by kernel_rfl) ?_) | (refine wpList_load_row rfl 32 (.tmp _) rfl gf rfl _ _ _ _ (H8.out.at 2 rfl) Try.underlying32 rfl (by kernel_rfl) ?_) | (refine wpList_load_row rfl 32 (.tmp _) rfl gp rfl _ _ _ _ (H8.out.at 3 rfl) Try.underlying32 rfl (by kernel_rfl) ?_))
  generalize ((w7.alloc (.cells #[.int .i64 0, .int .i64 0, .int .i64 0, .int .i64 0] 32)).setRow w7.heap.size #[.int .i64 s0, .int .i64 s1, .int .i64 s2, .int .i64 s3]) = w8 at H8 ⊢
  generalize w7.heap.size = gs at H8 ⊢
  clear N H7
  refine (dDrawWhen hc _ (hid_bel H8)).mono ?_
  rintro e w9 ⟨⟨⟨b0, b1, b2, b3⟩, k, rfl, hb, hk⟩, q⟩
  have H9 : Hid (Bxs 32 [(gs, #[.int .i64 s0, .int .i64 s1, .int .i64 s2, .int .i64 s3]), (ga, #[.int .i64 a0, .int .i64 a1, .int .i64 a2, .int .i64 a3]), (gf, #[.int .i64 f0, .int .i64 f1, .int .i64 f2, .int .i64 f3]), (gp, #[.int .i64 p0, .int .i64 p1, .int .i64 p2, .int .i64 p3])] w w9) := H8.out.below q
  clear q H8
  have Fb : Hid ((Pz.mk b0 b1 b2 b3).drawn ∧ (-9223372036854775808 ≤ k ∧ k ≤ 4611686018427387904)) := ⟨hb, hk⟩
  clear hb hk
  simp only [Pz.val]
  have N : Hid (Boxed (w9.alloc (.cells #[.int .i64 0, .int .i64 0, .int .i64 0, .int .i64 0] 32)) w9.heap.size #[.int .i64 0, .int .i64 0, .int .i64 0, .int .i64 0] 32) := Boxed.new _ _ _
  have H10 : Hid (Bxs 32 [(w9.heap.size, #[.int .i64 b0, .int .i64 b1, .int .i64 b2, .int .i64 b3]), (gs, #[.int .i64 s0, .int .i64 s1, .int .i64 s2, .int .i64 s3]), (ga, #[.int .i64 a0, .int .i64 a1, .int .i64 a2, .int .i64 a3]), (gf, #[.int .i64 f0, .int .i64 f1, .int .i64 f2, .int .i64 f3]), (gp, #[.int .i64 p0, .int .i64 p1, .int .i64 p2, .int .i64 p3])] w ((w9.alloc (.cells #[.int .i64 0, .int .i64 0, .int .i64 0, .int .i64 0] 32)).setRow w9.heap.size #[.int .i64 b0, .int .i64 b1, .int .i64 b2, .int .i64 b3])) := H9.out.store _ _
  go_wp2_with (first | (refine wpList_store_row rfl 32 (.tmp _) (.tmp _) rfl w9.heap.size #[.int .i64 b0, .int .i64 b1, .int .i64 b2, .int .i64 b3] rfl rfl _ _ N.out (by kernel_rfl) rfl (pzOnes _ _ _ _) ?_) | (refine wpList_load_row rfl 32 (.tmp _) rfl w9.heap.size rfl _ _ _ _ (H10.out.at 0 rfl) Try.underlying32 rfl (by kernel_rfl) ?_) | (refine wpList_load_row rfl 32 (.tmp _) rfl gs rfl _ _ _ _ (H10.out.at 1 rfl) Try.underlying32 rfl (by kernel_rfl) ?_) | (refine wpList_load_row rfl 32 (.tmp _) rfl ga rfl _ _ _ _ (H10.out.at 2 rfl) Try.underlying32 rfl (by kernel_rfl) ?_) | (refine wpList_load_row rfl 32 (.tmp _) rfl gf rfl _ _ _ _ (H10.out.at 3 rfl) Try.underlying32 rfl (by kernel_rfl) ?_) | (refine wpList_load_row rfl 32 (.tmp _) rfl gp rfl _ _ _ _ (H10.out.at 4 rfl) Try.underlying32 rfl (by kernel_rfl) ?_))
  generalize ((w9.alloc (.cells #[.int .i64 0, .int .i64 0, .int .i64 0, .int .i64 0] 32)).setRow w9.heap.size #[.int .i64 b0, .int .i64 b1, .int .i64 b2, .int .i64 b3]) = w10 at H10 ⊢
  generalize w9.heap.size = gb at H10 ⊢
  clear N H9
  obtain ⟨v, hv⟩ : ∃ v, v = Pz.when (Pz.mk b0 b1 b2 b3) k := ⟨_, rfl⟩
  have C := fun w => IW'.out (Pz.mk b0 b1 b2 b3) k w (by have := Fb.out.2; omega)
  have W := fun w => specWhen (Pz.mk b0 b1 b2 b3) k w (by have := Fb.out.2; omega)
  rw [← hv] at C W
  have Hv : Hid (v = _) := hv
  have C' : Hid _ := C
  have W' : Hid _ := W
  clear hv C W
  simp only [Pz.val] at C' W'
  refine (C'.out _).mono ?_
  rintro e w11 ⟨rfl, q⟩
  have H11 : Hid (Bxs 32 [(gb, #[.int .i64 b0, .int .i64 b1, .int .i64 b2, .int .i64 b3]), (gs, #[.int .i64 s0, .int .i64 s1, .int .i64 s2, .int .i64 s3]), (ga, #[.int .i64 a0, .int .i64 a1, .int .i64 a2, .int .i64 a3]), (gf, #[.int .i64 f0, .int .i64 f1, .int .i64 f2, .int .i64 f3]), (gp, #[.int .i64 p0, .int .i64 p1, .int .i64 p2, .int .i64 p3])] w w11) := H10.out.below q
  clear q H10
  clear C'
  go_wp2_with (first | (refine wpList_load_row rfl 32 (.tmp _) rfl gb rfl _ _ _ _ (H11.out.at 0 rfl) Try.underlying32 rfl (by kernel_rfl) ?_) | (refine wpList_load_row rfl 32 (.tmp _) rfl gs rfl _ _ _ _ (H11.out.at 1 rfl) Try.underlying32 rfl (by kernel_rfl) ?_) | (refine wpList_load_row rfl 32 (.tmp _) rfl ga rfl _ _ _ _ (H11.out.at 2 rfl) Try.underlying32 rfl (by kernel_rfl) ?_) | (refine wpList_load_row rfl 32 (.tmp _) rfl gf rfl _ _ _ _ (H11.out.at 3 rfl) Try.underlying32 rfl (by kernel_rfl) ?_) | (refine wpList_load_row rfl 32 (.tmp _) rfl gp rfl _ _ _ _ (H11.out.at 4 rfl) Try.underlying32 rfl (by kernel_rfl) ?_))
  refine (D'.out _).mono ?_
  rintro e w12 ⟨rfl, q⟩
  have H12 : Hid (Bxs 32 [(gb, #[.int .i64 b0, .int .i64 b1, .int .i64 b2, .int .i64 b3]), (gs, #[.int .i64 s0, .int .i64 s1, .int .i64 s2, .int .i64 s3]), (ga, #[.int .i64 a0, .int .i64 a1, .int .i64 a2, .int .i64 a3]), (gf, #[.int .i64 f0, .int .i64 f1, .int .i64 f2, .int .i64 f3]), (gp, #[.int .i64 p0, .int .i64 p1, .int .i64 p2, .int .i64 p3])] w w12) := H11.out.below q
  clear q H11
  clear D'
  have N : Hid (Boxed (w12.alloc (.cells #[.int .i64 0, .int .i64 0, .int .i64 0, .int .i64 0] 32)) w12.heap.size #[.int .i64 0, .int .i64 0, .int .i64 0, .int .i64 0] 32) := Boxed.new _ _ _
  have H13 : Hid (Bxs 32 [(w12.heap.size, #[.int .i64 s0, .int .i64 s1, .int .i64 s2, .int .i64 s3]), (gb, #[.int .i64 b0, .int .i64 b1, .int .i64 b2, .int .i64 b3]), (gs, #[.int .i64 s0, .int .i64 s1, .int .i64 s2, .int .i64 s3]), (ga, #[.int .i64 a0, .int .i64 a1, .int .i64 a2, .int .i64 a3]), (gf, #[.int .i64 f0, .int .i64 f1, .int .i64 f2, .int .i64 f3]), (gp, #[.int .i64 p0, .int .i64 p1, .int .i64 p2, .int .i64 p3])] w ((w12.alloc (.cells #[.int .i64 0, .int .i64 0, .int .i64 0, .int .i64 0] 32)).setRow w12.heap.size #[.int .i64 s0, .int .i64 s1, .int .i64 s2, .int .i64 s3])) := H12.out.store _ _
  go_wp2_with (first | (refine wpList_store_row rfl 32 (.tmp _) (.tmp _) rfl w12.heap.size #[.int .i64 s0, .int .i64 s1, .int .i64 s2, .int .i64 s3] rfl rfl _ _ N.out (by kernel_rfl) rfl (pzOnes _ _ _ _) ?_) | (refine wpList_load_row rfl 32 (.tmp _) rfl w12.heap.size rfl _ _ _ _ (H13.out.at 0 rfl) Try.underlying32 rfl (by kernel_rfl) ?_) | (refine wpList_load_row rfl 32 (.tmp _) rfl gb rfl _ _ _ _ (H13.out.at 1 rfl) Try.underlying32 rfl (by kernel_rfl) ?_) | (refine wpList_load_row rfl 32 (.tmp _) rfl gs rfl _ _ _ _ (H13.out.at 2 rfl) Try.underlying32 rfl (by kernel_rfl) ?_) | (refine wpList_load_row rfl 32 (.tmp _) rfl ga rfl _ _ _ _ (H13.out.at 3 rfl) Try.underlying32 rfl (by kernel_rfl) ?_) | (refine wpList_load_row rfl 32 (.tmp _) rfl gf rfl _ _ _ _ (H13.out.at 4 rfl) Try.underlying32 rfl (by kernel_rfl) ?_) | (refine wpList_load_row rfl 32 (.tmp _) rfl gp rfl _ _ _ _ (H13.out.at 5 rfl) Try.underlying32 rfl (by kernel_rfl) ?_))
  generalize ((w12.alloc (.cells #[.int .i64 0, .int .i64 0, .int .i64 0, .int .i64 0] 32)).setRow w12.heap.size #[.int .i64 s0, .int .i64 s1, .int .i64 s2, .int .i64 s3]) = w13 at H13 ⊢
  generalize w12.heap.size = gx at H13 ⊢
  clear N H12
  obtain ⟨bp, hbp⟩ : ∃ b, b = Pz.ok (Pz.mk p0 p1 p2 p3) := ⟨_, rfl⟩
  have K1 := fun w => IK'.out (Pz.mk p0 p1 p2 p3) w
  have K2 := fun w => specPurseOkB (Pz.mk p0 p1 p2 p3) w
  rw [← hbp] at K1 K2
  have K3 := fun w => specFilled (Pz.mk p0 p1 p2 p3) now w
  rw [← Hf.out] at K3
  have Hbp : Hid (bp = _) := hbp
  have K1' : Hid _ := K1
  have K2' : Hid _ := K2
  have K3' : Hid _ := K3
  clear hbp K1 K2 K3
  simp only [Pz.val] at K1' K2' K3'
  have cx0 : ∀ p : BelW w13.heap.size w13, p.w'.cell? ⟨gx, 0, none⟩ = some (.int .i64 s0) := fun p => ((H13.out.below p.h).at 0 rfl).cell 0 rfl
  have cx1 : ∀ p : BelW w13.heap.size w13, p.w'.cell? ⟨gx, 1, none⟩ = some (.int .i64 s1) := fun p => ((H13.out.below p.h).at 0 rfl).cell 1 rfl
  have cx2 : ∀ p : BelW w13.heap.size w13, p.w'.cell? ⟨gx, 2, none⟩ = some (.int .i64 s2) := fun p => ((H13.out.below p.h).at 0 rfl).cell 2 rfl
  have cx3 : ∀ p : BelW w13.heap.size w13, p.w'.cell? ⟨gx, 3, none⟩ = some (.int .i64 s3) := fun p => ((H13.out.below p.h).at 0 rfl).cell 3 rfl
  have cb0 : ∀ p : BelW w13.heap.size w13, p.w'.cell? ⟨gb, 0, none⟩ = some (.int .i64 b0) := fun p => ((H13.out.below p.h).at 1 rfl).cell 0 rfl
  have cb1 : ∀ p : BelW w13.heap.size w13, p.w'.cell? ⟨gb, 1, none⟩ = some (.int .i64 b1) := fun p => ((H13.out.below p.h).at 1 rfl).cell 1 rfl
  have cb2 : ∀ p : BelW w13.heap.size w13, p.w'.cell? ⟨gb, 2, none⟩ = some (.int .i64 b2) := fun p => ((H13.out.below p.h).at 1 rfl).cell 2 rfl
  have cb3 : ∀ p : BelW w13.heap.size w13, p.w'.cell? ⟨gb, 3, none⟩ = some (.int .i64 b3) := fun p => ((H13.out.below p.h).at 1 rfl).cell 3 rfl
  have cs0 : ∀ p : BelW w13.heap.size w13, p.w'.cell? ⟨gs, 0, none⟩ = some (.int .i64 s0) := fun p => ((H13.out.below p.h).at 2 rfl).cell 0 rfl
  have cs1 : ∀ p : BelW w13.heap.size w13, p.w'.cell? ⟨gs, 1, none⟩ = some (.int .i64 s1) := fun p => ((H13.out.below p.h).at 2 rfl).cell 1 rfl
  have cs2 : ∀ p : BelW w13.heap.size w13, p.w'.cell? ⟨gs, 2, none⟩ = some (.int .i64 s2) := fun p => ((H13.out.below p.h).at 2 rfl).cell 2 rfl
  have cs3 : ∀ p : BelW w13.heap.size w13, p.w'.cell? ⟨gs, 3, none⟩ = some (.int .i64 s3) := fun p => ((H13.out.below p.h).at 2 rfl).cell 3 rfl
  have cf0 : ∀ p : BelW w13.heap.size w13, p.w'.cell? ⟨gf, 0, none⟩ = some (.int .i64 f0) := fun p => ((H13.out.below p.h).at 4 rfl).cell 0 rfl
  have cf1 : ∀ p : BelW w13.heap.size w13, p.w'.cell? ⟨gf, 1, none⟩ = some (.int .i64 f1) := fun p => ((H13.out.below p.h).at 4 rfl).cell 1 rfl
  have cf2 : ∀ p : BelW w13.heap.size w13, p.w'.cell? ⟨gf, 2, none⟩ = some (.int .i64 f2) := fun p => ((H13.out.below p.h).at 4 rfl).cell 2 rfl
  have cf3 : ∀ p : BelW w13.heap.size w13, p.w'.cell? ⟨gf, 3, none⟩ = some (.int .i64 f3) := fun p => ((H13.out.below p.h).at 4 rfl).cell 3 rfl
  have cp0 : ∀ p : BelW w13.heap.size w13, p.w'.cell? ⟨gp, 0, none⟩ = some (.int .i64 p0) := fun p => ((H13.out.below p.h).at 5 rfl).cell 0 rfl
  have cp1 : ∀ p : BelW w13.heap.size w13, p.w'.cell? ⟨gp, 1, none⟩ = some (.int .i64 p1) := fun p => ((H13.out.below p.h).at 5 rfl).cell 1 rfl
  have cp2 : ∀ p : BelW w13.heap.size w13, p.w'.cell? ⟨gp, 2, none⟩ = some (.int .i64 p2) := fun p => ((H13.out.below p.h).at 5 rfl).cell 2 rfl
  have cp3 : ∀ p : BelW w13.heap.size w13, p.w'.cell? ⟨gp, 3, none⟩ = some (.int .i64 p3) := fun p => ((H13.out.below p.h).at 5 rfl).cell 3 rfl
  haveI : Nonempty (BelW w13.heap.size w13) := ⟨⟨w13, Below.refl _ _⟩⟩
  refine region_below w13.heap.size (by kernel_rfl) (by kernel_rfl) ?_
  repeat (go_big_quiet_step ((first | (go_at_call 20; refine quiet_below (Nat.le_refl _) (K3'.out _)) | (go_at_call 21; refine quiet_below (Nat.le_refl _) (W'.out _)) | (go_at_call 22; refine quiet_below (Nat.le_refl _) (K1'.out _)) | (go_at_call 23; refine quiet_below (Nat.le_refl _) (K2'.out _)))))
  refine wpQuiet_nil ?_
  intro w14 hx
  have q := BelW.out hx
  have H14 : Hid (Bxs 32 [(gx, #[.int .i64 s0, .int .i64 s1, .int .i64 s2, .int .i64 s3]), (gb, #[.int .i64 b0, .int .i64 b1, .int .i64 b2, .int .i64 b3]), (gs, #[.int .i64 s0, .int .i64 s1, .int .i64 s2, .int .i64 s3]), (ga, #[.int .i64 a0, .int .i64 a1, .int .i64 a2, .int .i64 a3]), (gf, #[.int .i64 f0, .int .i64 f1, .int .i64 f2, .int .i64 f3]), (gp, #[.int .i64 p0, .int .i64 p1, .int .i64 p2, .int .i64 p3])] w w14) := H13.out.below q
  clear hx q H13 cx0 cx1 cx2 cx3 cs0 cs1 cs2 cs3 cf0 cf1 cf2 cf3 cp0 cp1 cp2 cp3 cb0 cb1 cb2 cb3 K1' K3' W'
  go_upto_region 12 with fail
  go_cut [108] (fun s wc => Hid (s = .bool false ∧ Bxs 32 [(gx, #[.int .i64 s0, .int .i64 s1, .int .i64 s2, .int .i64 s3]), (gb, #[.int .i64 b0, .int .i64 b1, .int .i64 b2, .int .i64 b3]), (gs, #[.int .i64 s0, .int .i64 s1, .int .i64 s2, .int .i64 s3]), (ga, #[.int .i64 a0, .int .i64 a1, .int .i64 a2, .int .i64 a3]), (gf, #[.int .i64 f0, .int .i64 f1, .int .i64 f2, .int .i64 f3]), (gp, #[.int .i64 p0, .int .i64 p1, .int .i64 p2, .int .i64 p3])] w wc))
  case first =>
    by_cases hv0 : 0 ≤ v
    · have W1 := when_is (p := (Pz.mk b0 b1 b2 b3)) (n := k) (by rw [← Hv.out]; exact hv0)
      have W2 := when_le (p := (Pz.mk b0 b1 b2 b3)) (n := k)
      rw [← Hv.out] at W1 W2
      have hw : IntKind.i64.wrap (v - 1) = v - 1 := by rw [IntKind.wrap_i64]; omega
      obtain ⟨h, hh⟩ : ∃ s, s = Pz.filled (Pz.mk b0 b1 b2 b3) v := ⟨_, rfl⟩
      obtain ⟨i, hi⟩ : ∃ s, s = Pz.filled (Pz.mk b0 b1 b2 b3) (v - 1) := ⟨_, rfl⟩
      have C1 := fun w => IF'.out (Pz.mk b0 b1 b2 b3) v w
      have C2 := fun w => IF'.out (Pz.mk b0 b1 b2 b3) (v - 1) w
      rw [← hh] at C1 W1
      rw [← hi] at C2 W1
      obtain ⟨h0, h1, h2, h3⟩ := h
      obtain ⟨i0, i1, i2, i3⟩ := i
      have C1' : Hid _ := C1
      have C2' : Hid _ := C2
      have W1' : Hid (k ≤ h2 ∧ (b3 < v → i2 < k)) := W1
      have Hw : Hid _ := hw
      clear hh hi C1 C2 W1 W2 hw
      simp only [Pz.val] at C1' C2'
      have y0 : w14.cell? ⟨gb, 0, none⟩ = some (.int .i64 b0) := (H14.out.at 1 rfl).cell 0 rfl
      have y1 : w14.cell? ⟨gb, 1, none⟩ = some (.int .i64 b1) := (H14.out.at 1 rfl).cell 1 rfl
      have y2 : w14.cell? ⟨gb, 2, none⟩ = some (.int .i64 b2) := (H14.out.at 1 rfl).cell 2 rfl
      have y3 : w14.cell? ⟨gb, 3, none⟩ = some (.int .i64 b3) := (H14.out.at 1 rfl).cell 3 rfl
      go_wp2_with fail
      refine (C1'.out _).mono ?_
      rintro e w15 ⟨rfl, q⟩
      have H15 : Hid (Bxs 32 [(gx, #[.int .i64 s0, .int .i64 s1, .int .i64 s2, .int .i64 s3]), (gb, #[.int .i64 b0, .int .i64 b1, .int .i64 b2, .int .i64 b3]), (gs, #[.int .i64 s0, .int .i64 s1, .int .i64 s2, .int .i64 s3]), (ga, #[.int .i64 a0, .int .i64 a1, .int .i64 a2, .int .i64 a3]), (gf, #[.int .i64 f0, .int .i64 f1, .int .i64 f2, .int .i64 f3]), (gp, #[.int .i64 p0, .int .i64 p1, .int .i64 p2, .int .i64 p3])] w w15) := H14.out.below q
      have c3 : w15.cell? ⟨gb, 3, none⟩ = some (.int .i64 b3) := (H15.out.at 1 rfl).cell 3 rfl
      clear q C1' H14 y0 y1 y2 y3
      have n1 : ¬ h2 < k := by have := W1'.out.1; omega
      have pf := fun w => pzLevel h0 h1 h2 h3 w
      by_cases ht : b3 < v
      · have n2 : ¬ k ≤ i2 := by have := W1'.out.2 ht; omega
        have hw := Hw.out
        clear Hw W1'
        have y0 : w15.cell? ⟨gb, 0, none⟩ = some (.int .i64 b0) := (H15.out.at 1 rfl).cell 0 rfl
        have y1 : w15.cell? ⟨gb, 1, none⟩ = some (.int .i64 b1) := (H15.out.at 1 rfl).cell 1 rfl
        have y2 : w15.cell? ⟨gb, 2, none⟩ = some (.int .i64 b2) := (H15.out.at 1 rfl).cell 2 rfl
        go_wp2_with fail
        refine (C2'.out _).mono ?_
        rintro e w16 ⟨rfl, q⟩
        have H16 : Hid (Bxs 32 [(gx, #[.int .i64 s0, .int .i64 s1, .int .i64 s2, .int .i64 s3]), (gb, #[.int .i64 b0, .int .i64 b1, .int .i64 b2, .int .i64 b3]), (gs, #[.int .i64 s0, .int .i64 s1, .int .i64 s2, .int .i64 s3]), (ga, #[.int .i64 a0, .int .i64 a1, .int .i64 a2, .int .i64 a3]), (gf, #[.int .i64 f0, .int .i64 f1, .int .i64 f2, .int .i64 f3]), (gp, #[.int .i64 p0, .int .i64 p1, .int .i64 p2, .int .i64 p3])] w w16) := H15.out.below q
        clear q C2' H15 c3 y0 y1 y2 pf
        have pf := fun w => pzLevel i0 i1 i2 i3 w
        go_wp2_with fail
        go_meet
        exact ⟨by first | rfl | (simp [n2]; omega) | (simp [n2]; done), H16.out⟩
      · clear Hw W1'
        go_wp2_with fail
        go_meet
        exact ⟨by first | rfl | (simp; omega) | (simp; done), H15.out⟩
    · go_wp2_with fail
      go_meet
      exact ⟨rfl, H14.out⟩
  case rest =>
    obtain ⟨rfl, hK⟩ := hcut.out
    have H17 : Hid (Bxs 32 [(gx, #[.int .i64 s0, .int .i64 s1, .int .i64 s2, .int .i64 s3]), (gb, #[.int .i64 b0, .int .i64 b1, .int .i64 b2, .int .i64 b3]), (gs, #[.int .i64 s0, .int .i64 s1, .int .i64 s2, .int .i64 s3]), (ga, #[.int .i64 a0, .int .i64 a1, .int .i64 a2, .int .i64 a3]), (gf, #[.int .i64 f0, .int .i64 f1, .int .i64 f2, .int .i64 f3]), (gp, #[.int .i64 p0, .int .i64 p1, .int .i64 p2, .int .i64 p3])] w wc) := hK
    clear hcut hK H14 Hv Fb
    go_upto_region 14 with fail
    go_cut [130] (fun s wd => Hid (s = .bool false ∧ Bxs 32 [(gx, #[.int .i64 s0, .int .i64 s1, .int .i64 s2, .int .i64 s3]), (gb, #[.int .i64 b0, .int .i64 b1, .int .i64 b2, .int .i64 b3]), (gs, #[.int .i64 s0, .int .i64 s1, .int .i64 s2, .int .i64 s3]), (ga, #[.int .i64 a0, .int .i64 a1, .int .i64 a2, .int .i64 a3]), (gf, #[.int .i64 f0, .int .i64 f1, .int .i64 f2, .int .i64 f3]), (gp, #[.int .i64 p0, .int .i64 p1, .int .i64 p2, .int .i64 p3])] w wd))
    case first =>
      obtain ⟨h, hh⟩ : ∃ s, s = Pz.filled (Pz.mk a0 a1 a2 a3) t := ⟨_, rfl⟩
      have C1 := fun w => IF'.out (Pz.mk a0 a1 a2 a3) t w
      rw [← hh] at C1
      have S1 : Hid (bs = true → s2 = h.level - n ∧ 0 ≤ s2 ∧ Pz.ok (Pz.mk s0 s1 s2 s3) = true) := fun e => by
        have h1 := spent_is (p := (Pz.mk a0 a1 a2 a3)) (now := t) (n := n) (Hbs.out.symm.trans e)
        rw [← Hs.out, ← hh] at h1
        exact h1
      obtain ⟨h0, h1, h2, h3⟩ := h
      have C1' : Hid _ := C1
      clear hh C1
      simp only [Pz.val] at C1'
      have cs0 : ∀ p : BelW wc.heap.size wc, p.w'.cell? ⟨gs, 0, none⟩ = some (.int .i64 s0) := fun p => ((H17.out.below p.h).at 2 rfl).cell 0 rfl
      have cs1 : ∀ p : BelW wc.heap.size wc, p.w'.cell? ⟨gs, 1, none⟩ = some (.int .i64 s1) := fun p => ((H17.out.below p.h).at 2 rfl).cell 1 rfl
      have cs2 : ∀ p : BelW wc.heap.size wc, p.w'.cell? ⟨gs, 2, none⟩ = some (.int .i64 s2) := fun p => ((H17.out.below p.h).at 2 rfl).cell 2 rfl
      have cs3 : ∀ p : BelW wc.heap.size wc, p.w'.cell? ⟨gs, 3, none⟩ = some (.int .i64 s3) := fun p => ((H17.out.below p.h).at 2 rfl).cell 3 rfl
      have ca0 : ∀ p : BelW wc.heap.size wc, p.w'.cell? ⟨ga, 0, none⟩ = some (.int .i64 a0) := fun p => ((H17.out.below p.h).at 3 rfl).cell 0 rfl
      have ca1 : ∀ p : BelW wc.heap.size wc, p.w'.cell? ⟨ga, 1, none⟩ = some (.int .i64 a1) := fun p => ((H17.out.below p.h).at 3 rfl).cell 1 rfl
      have ca2 : ∀ p : BelW wc.heap.size wc, p.w'.cell? ⟨ga, 2, none⟩ = some (.int .i64 a2) := fun p => ((H17.out.below p.h).at 3 rfl).cell 2 rfl
      have ca3 : ∀ p : BelW wc.heap.size wc, p.w'.cell? ⟨ga, 3, none⟩ = some (.int .i64 a3) := fun p => ((H17.out.below p.h).at 3 rfl).cell 3 rfl
      haveI : Nonempty (BelW wc.heap.size wc) := ⟨⟨wc, Below.refl _ _⟩⟩
      cases bs with
      | false =>
        go_wp2_with fail
        refine region_below wc.heap.size (by kernel_rfl) (by kernel_rfl) ?_
        repeat (go_big_quiet_step (fail))
        refine wpQuiet_nil ?_
        intro w18 hx
        have q := BelW.out hx
        have H18 : Hid (Bxs 32 [(gx, #[.int .i64 s0, .int .i64 s1, .int .i64 s2, .int .i64 s3]), (gb, #[.int .i64 b0, .int .i64 b1, .int .i64 b2, .int .i64 b3]), (gs, #[.int .i64 s0, .int .i64 s1, .int .i64 s2, .int .i64 s3]), (ga, #[.int .i64 a0, .int .i64 a1, .int .i64 a2, .int .i64 a3]), (gf, #[.int .i64 f0, .int .i64 f1, .int .i64 f2, .int .i64 f3]), (gp, #[.int .i64 p0, .int .i64 p1, .int .i64 p2, .int .i64 p3])] w w18) := H17.out.below q
        clear hx q
        go_wp2_with fail
        go_meet
        exact ⟨by first | rfl | simp, H18.out⟩
      | true =>
        obtain ⟨e1, e2, e3⟩ := S1.out rfl
        have K4 := fun w => IK'.out (Pz.mk s0 s1 s2 s3) w
        have o3 := Pz.ok_iff.1 e3
        have hw : IntKind.i64.wrap (h2 - n) = s2 := by
          have h4 : 0 ≤ s2 ∧ s2 ≤ s1 := o3.2.2.1
          have h5 : 1 ≤ s1 ∧ s1 ≤ 100000 := o3.2.1
          have e1 : s2 = h2 - n := e1
          rw [IntKind.wrap_i64]
          omega
        rw [e3] at K4
        simp only [Pz.val] at K4
        have K4' : Hid _ := K4
        have d1 : decide (s2 < 0) = false := decide_eq_false (by omega)
        have pf := fun w => pzLevel h0 h1 h2 h3 w
        clear e1 e2 e3 o3 K4
        go_wp2_with fail
        refine region_below wc.heap.size (by kernel_rfl) (by kernel_rfl) ?_
        repeat (go_big_quiet_step ((first | (go_at_call 14; refine quiet_below (Nat.le_refl _) (C1'.out _)) | (go_at_call 22; refine quiet_below (Nat.le_refl _) (K4'.out _)))))
        refine wpQuiet_nil ?_
        intro w18 hx
        have q := BelW.out hx
        have H18 : Hid (Bxs 32 [(gx, #[.int .i64 s0, .int .i64 s1, .int .i64 s2, .int .i64 s3]), (gb, #[.int .i64 b0, .int .i64 b1, .int .i64 b2, .int .i64 b3]), (gs, #[.int .i64 s0, .int .i64 s1, .int .i64 s2, .int .i64 s3]), (ga, #[.int .i64 a0, .int .i64 a1, .int .i64 a2, .int .i64 a3]), (gf, #[.int .i64 f0, .int .i64 f1, .int .i64 f2, .int .i64 f3]), (gp, #[.int .i64 p0, .int .i64 p1, .int .i64 p2, .int .i64 p3])] w w18) := H17.out.below q
        clear hx q
        go_wp2_with fail
        go_meet
        exact ⟨by first | rfl | simp, H18.out⟩
    case rest =>
      obtain ⟨rfl, hK⟩ := hcut.out
      have H19 : Hid (Bxs 32 [(gx, #[.int .i64 s0, .int .i64 s1, .int .i64 s2, .int .i64 s3]), (gb, #[.int .i64 b0, .int .i64 b1, .int .i64 b2, .int .i64 b3]), (gs, #[.int .i64 s0, .int .i64 s1, .int .i64 s2, .int .i64 s3]), (ga, #[.int .i64 a0, .int .i64 a1, .int .i64 a2, .int .i64 a3]), (gf, #[.int .i64 f0, .int .i64 f1, .int .i64 f2, .int .i64 f3]), (gp, #[.int .i64 p0, .int .i64 p1, .int .i64 p2, .int .i64 p3])] w wc) := hK
      clear hcut hK H17 Hs Hbs Fa
      go_wp2_with (refine wpList_load_row rfl 32 (.tmp _) rfl gp rfl _ _ _ _ (H19.out.at 5 rfl) Try.underlying32 rfl (by kernel_rfl) ?_)
      refine (K2'.out _).mono ?_
      rintro e w20 ⟨rfl, q⟩
      have H20 : Hid (Bxs 32 [(gx, #[.int .i64 s0, .int .i64 s1, .int .i64 s2, .int .i64 s3]), (gb, #[.int .i64 b0, .int .i64 b1, .int .i64 b2, .int .i64 b3]), (gs, #[.int .i64 s0, .int .i64 s1, .int .i64 s2, .int .i64 s3]), (ga, #[.int .i64 a0, .int .i64 a1, .int .i64 a2, .int .i64 a3]), (gf, #[.int .i64 f0, .int .i64 f1, .int .i64 f2, .int .i64 f3]), (gp, #[.int .i64 p0, .int .i64 p1, .int .i64 p2, .int .i64 p3])] w w20) := H19.out.below q
      clear q H19 K2'
      cases bp with
      | false =>
        have e := Hf.out
        unfold Pz.filled at e
        rw [if_neg (by rw [← Hbp.out]; decide)] at e
        cases e
        clear Hf
        go_wp2_with (refine wpList_load_row rfl 32 (.tmp _) rfl gf rfl _ _ _ _ (H20.out.at 4 rfl) Try.underlying32 rfl (by kernel_rfl) ?_)
        go_ret
        exact ⟨rfl, H20.out.bel⟩
      | true =>
        have hok := Hbp.out.symm
        have c3 : w20.cell? ⟨gp, 3, none⟩ = some (.int .i64 p3) := (H20.out.at 5 rfl).cell 3 rfl
        by_cases hin : p3 ≤ now ∧ now ≤ 1099511627776
        · have j1 : ¬ now < p3 := by omega
          have j2 : ¬ 1099511627776 < now := by omega
          have ok := Pz.ok_iff.1 hok
          have k1 : 0 ≤ p3 ∧ p3 ≤ 1099511627776 := ok.2.2.2
          have hw1 : IntKind.i64.wrap (now - p3) = now - p3 := by rw [IntKind.wrap_i64]; omega
          have hw2 : IntKind.i64.wrap (now - p3 + 1) = now - p3 + 1 := by rw [IntKind.wrap_i64]; omega
          obtain ⟨y, hy, PK⟩ := lawPickD (cap := cap) hc 1 (now - p3 + 1) (by omega) (by omega) (by omega) (by omega)
          have hw3 : IntKind.i64.wrap (p3 + y) = p3 + y := by rw [IntKind.wrap_i64]; omega
          have PK' : Hid _ := PK
          obtain ⟨m, hm⟩ : ∃ s, s = Pz.filled (Pz.mk p0 p1 p2 p3) (p3 + y) := ⟨_, rfl⟩
          have C1 := fun w => IF'.out (Pz.mk p0 p1 p2 p3) (p3 + y) w
          rw [← hm] at C1
          have C2 := fun w => IF'.out m now w
          have tw : m.filled now = Pz.mk f0 f1 f2 f3 := by
            rw [hm, Hf.out]
            exact filled_twice hok (show p3 ≤ p3 + y by omega) (by omega) hin.2
          rw [tw] at C2
          have fo := fill_ok (p := (Pz.mk p0 p1 p2 p3)) (now := now) hok (by unfold Pz.at'; rw [inB_true]; exact hin)
          have fe := Hf.out
          rw [filled_at hok (show p3 ≤ now from hin.1) hin.2] at fe
          rw [← fe] at fo
          have K5 := fun w => IK'.out (Pz.mk f0 f1 f2 f3) w
          rw [fo.1] at K5
          have d9 : decide (p2 ≤ f2) = true := decide_eq_true fo.2
          obtain ⟨m0, m1, m2, m3⟩ := m
          simp only [Pz.val] at C1 C2 K5
          have C1' : Hid _ := C1
          have C2' : Hid _ := C2
          have K5' : Hid _ := K5
          have Hw : Hid (p2 ≤ f2) := fo.2
          have HP : Hid (∀ x, Below w20.heap.size w20 x → Hid (Below w.heap.size w x)) := fun x g => H20.out.bel.trans (g.mono H20.out.bel.size)
          have c3' : ∀ p : BelW w20.heap.size w20, p.w'.cell? ⟨gp, 3, none⟩ = some (.int .i64 p3) := fun p => ((H20.out.below p.h).at 5 rfl).cell 3 rfl
          haveI : Nonempty (BelW w20.heap.size w20) := ⟨⟨w20, Below.refl _ _⟩⟩
          clear ok k1 hy PK hm C1 C2 tw fo fe K5 hin Hf hok
          go_wp2_with fail
          refine region_below w20.heap.size (by kernel_rfl) (by kernel_rfl) ?_
          repeat (go_big_quiet_step ((go_at_call 12; refine quiet_below (Nat.le_refl _) ((PK'.out _ (HP.out _ (BelW.h _))).mono fun _ _ h => ⟨h.1, by rw [h.2]; exact Below.refl _ _⟩))))
          refine wpQuiet_nil ?_
          intro w21 hx
          have q := BelW.out hx
          have H21 : Hid (Bxs 32 [(gx, #[.int .i64 s0, .int .i64 s1, .int .i64 s2, .int .i64 s3]), (gb, #[.int .i64 b0, .int .i64 b1, .int .i64 b2, .int .i64 b3]), (gs, #[.int .i64 s0, .int .i64 s1, .int .i64 s2, .int .i64 s3]), (ga, #[.int .i64 a0, .int .i64 a1, .int .i64 a2, .int .i64 a3]), (gf, #[.int .i64 f0, .int .i64 f1, .int .i64 f2, .int .i64 f3]), (gp, #[.int .i64 p0, .int .i64 p1, .int .i64 p2, .int .i64 p3])] w w21) := H20.out.below q
          clear hx q H20 c3 c3' HP PK' hw1 hw2 hw3 this
          have cf0 : ∀ p : BelW w21.heap.size w21, p.w'.cell? ⟨gf, 0, none⟩ = some (.int .i64 f0) := fun p => ((H21.out.below p.h).at 4 rfl).cell 0 rfl
          have cf1 : ∀ p : BelW w21.heap.size w21, p.w'.cell? ⟨gf, 1, none⟩ = some (.int .i64 f1) := fun p => ((H21.out.below p.h).at 4 rfl).cell 1 rfl
          have cf2 : ∀ p : BelW w21.heap.size w21, p.w'.cell? ⟨gf, 2, none⟩ = some (.int .i64 f2) := fun p => ((H21.out.below p.h).at 4 rfl).cell 2 rfl
          have cf3 : ∀ p : BelW w21.heap.size w21, p.w'.cell? ⟨gf, 3, none⟩ = some (.int .i64 f3) := fun p => ((H21.out.below p.h).at 4 rfl).cell 3 rfl
          have cp0 : ∀ p : BelW w21.heap.size w21, p.w'.cell? ⟨gp, 0, none⟩ = some (.int .i64 p0) := fun p => ((H21.out.below p.h).at 5 rfl).cell 0 rfl
          have cp1 : ∀ p : BelW w21.heap.size w21, p.w'.cell? ⟨gp, 1, none⟩ = some (.int .i64 p1) := fun p => ((H21.out.below p.h).at 5 rfl).cell 1 rfl
          have cp2 : ∀ p : BelW w21.heap.size w21, p.w'.cell? ⟨gp, 2, none⟩ = some (.int .i64 p2) := fun p => ((H21.out.below p.h).at 5 rfl).cell 2 rfl
          have cp3 : ∀ p : BelW w21.heap.size w21, p.w'.cell? ⟨gp, 3, none⟩ = some (.int .i64 p3) := fun p => ((H21.out.below p.h).at 5 rfl).cell 3 rfl
          haveI : Nonempty (BelW w21.heap.size w21) := ⟨⟨w21, Below.refl _ _⟩⟩
          go_wp2_with fail
          refine region_below w21.heap.size (by kernel_rfl) (by kernel_rfl) ?_
          repeat (go_big_quiet_step ((first | (go_at_call 22; refine quiet_below (Nat.le_refl _) (K5'.out _)) | (go_at_call 14; with_reducible refine quiet_below (Nat.le_refl _) (C1'.out _)) | (go_at_call 14; with_reducible refine quiet_below (Nat.le_refl _) (C2'.out _)))))
          refine wpQuiet_nil ?_
          intro w22 hx
          have q := BelW.out hx
          have H22 : Hid (Bxs 32 [(gx, #[.int .i64 s0, .int .i64 s1, .int .i64 s2, .int .i64 s3]), (gb, #[.int .i64 b0, .int .i64 b1, .int .i64 b2, .int .i64 b3]), (gs, #[.int .i64 s0, .int .i64 s1, .int .i64 s2, .int .i64 s3]), (ga, #[.int .i64 a0, .int .i64 a1, .int .i64 a2, .int .i64 a3]), (gf, #[.int .i64 f0, .int .i64 f1, .int .i64 f2, .int .i64 f3]), (gp, #[.int .i64 p0, .int .i64 p1, .int .i64 p2, .int .i64 p3])] w w22) := H21.out.below q
          clear hx q
          go_wp2
          go_ret
          exact ⟨by first | rfl | (simp [Hw.out]) | (rw [decide_eq_true Hw.out]), H22.out.bel⟩
        · have e := Hf.out
          unfold Pz.filled at e
          rw [if_pos hok, if_neg (by unfold Pz.at'; rw [inB_true]; exact hin)] at e
          cases e
          clear Hf
          by_cases h1 : now < p3
          · go_wp2_with (first | (refine wpList_load_row rfl 32 (.tmp _) rfl gf rfl _ _ _ _ (H20.out.at 4 rfl) Try.underlying32 rfl (by kernel_rfl) ?_) | (refine wpList_load_row rfl 32 (.tmp _) rfl gp rfl _ _ _ _ (H20.out.at 5 rfl) Try.underlying32 rfl (by kernel_rfl) ?_))
            go_ret
            exact ⟨rfl, H20.out.bel⟩
          · have h2 : 1099511627776 < now := by omega
            go_wp2_with (first | (refine wpList_load_row rfl 32 (.tmp _) rfl gf rfl _ _ _ _ (H20.out.at 4 rfl) Try.underlying32 rfl (by kernel_rfl) ?_) | (refine wpList_load_row rfl 32 (.tmp _) rfl gp rfl _ _ _ _ (H20.out.at 5 rfl) Try.underlying32 rfl (by kernel_rfl) ?_))
            go_ret
            exact ⟨rfl, H20.out.bel⟩
end Go.Proofs.Ytkdofeanpcbihaa

/-
  The walk of the program's When. By the verifier.
-/
import Derived.Test.YtfdapmchpikfiaaPzImpl
import Derived.Test.YtfdapmchpikfiaaM3LikeNd
import Derived.Handy
import Derived.BigQuiet
namespace Go.Proofs.Ytfdapmchpikfiaa
open Go.RowKit

theorem implBegunP (c p : Int) (p0 : 1 ≤ p) (p1 : p ≤ 1000) (c0 : 0 ≤ c) (c1 : c ≤ 100000) (w : World) :
    Calls Try.prog 60 #[.int .i64 c, .int .i64 p] w fun e w' => e = .returned (.int .i64 ((c + p - 1) / p)) ∧ Below w.heap.size w w' := by
  have hd0 : 0 ≤ (c + p - 1) / p := Int.ediv_nonneg (by omega) (by omega)
  have hd1 : (c + p - 1) / p ≤ c + p - 1 := Int.ediv_le_self _ (by omega)
  have k2 : IntKind.i64.wrap (c + p) = c + p := by rw [IntKind.wrap_i64]; omega
  have k3 : IntKind.i64.wrap (c + p - 1) = c + p - 1 := by rw [IntKind.wrap_i64]; omega
  have kd : Int.tdiv (c + p - 1) p = (c + p - 1) / p := Int.tdiv_eq_ediv_of_nonneg (by omega)
  have k4 : IntKind.i64.wrap ((c + p - 1) / p) = (c + p - 1) / p := by rw [IntKind.wrap_i64]; omega
  have k0 : ¬ p = 0 := by omega
  go_enter Try.func60, Try.ntmps60
  go_wp2
  go_ret
  exact ⟨rfl, Below.refl _ _⟩

theorem Pz.when_ok {p : Pz} {n : Int} (h : p.ok = true) (hn : inB 0 p.burst n = true) : p.when n = if n ≤ p.level then p.tm else if p.rate = 0 then -1 else if inB 0 1099511627776 (p.tm + (n - p.level + p.rate - 1) / p.rate) = true then p.tm + (n - p.level + p.rate - 1) / p.rate else -1 := by
  have h1 := Pz.ok_iff.1 h
  rw [inB_true] at hn
  unfold Pz.when Pz.whenL
  rw [if_pos ⟨h, hn.1⟩]
  by_cases h2 : n ≤ p.level
  · rw [if_pos h2, if_pos h2]
  rw [if_neg h2, if_neg h2]
  by_cases h3 : p.rate = 0
  · rw [if_pos (.inl h3), if_pos h3]
  rw [if_neg (by omega), if_neg h3]
  have hd0 : 0 ≤ (n - p.level + p.rate - 1) / p.rate := Int.ediv_nonneg (by omega) (by omega)
  by_cases h4 : 1099511627776 < p.tm + (n - p.level + p.rate - 1) / p.rate
  · rw [if_pos h4, if_neg (by rw [inB_true]; omega)]
  · rw [if_neg h4, if_pos (by rw [inB_true]; omega)]
theorem Pz.when_no {p : Pz} {n : Int} (h : (p.ok && inB 0 p.burst n) = false) : p.when n = -1 := by
  unfold Pz.when
  by_cases h1 : p.ok = true ∧ 0 ≤ n
  · rw [if_pos h1]
    rw [h1.1, Bool.true_and, inB_false] at h
    have h2 := Pz.ok_iff.1 h1.1
    unfold Pz.whenL
    rw [if_neg (by omega), if_pos (.inr (by omega))]
  · rw [if_neg h1]

set_option maxHeartbeats 3200000 in
set_option maxRecDepth 100000 in
theorem implWhen (p : Pz) (n : Int) (w : World) :
    Calls Try.prog 47 #[p.val, .int .i64 n] w fun e w' => e = .returned (.int .i64 (p.when n)) ∧ Below w.heap.size w w' := by
  have A1 := fun w => implPurseOk p w
  have A2 := fun B w h => implUpTo1 p.burst n w B h
  have HN : Hid ((p.ok && inB 0 p.burst n) = false → p.when n = -1) := Pz.when_no
  have HY : Hid (p.ok = true → inB 0 p.burst n = true → p.when n = if n ≤ p.level then p.tm else if p.rate = 0 then -1 else if inB 0 1099511627776 (p.tm + (n - p.level + p.rate - 1) / p.rate) = true then p.tm + (n - p.level + p.rate - 1) / p.rate else -1) := Pz.when_ok
  have HO : Hid (p.ok = true → inB 0 p.burst n = true → (0 ≤ p.rate ∧ p.rate ≤ 1000) ∧ (0 ≤ p.level ∧ n ≤ 100000) ∧ (0 ≤ p.tm ∧ p.tm ≤ 1099511627776)) := fun h1 h2 => by
    have h := Pz.ok_iff.1 h1
    rw [inB_true] at h2
    omega
  generalize p.when n = F at HN HY ⊢
  generalize p.ok = ok at A1 HN HY HO
  generalize inB 0 p.burst n = up at A2 HN HY HO
  obtain ⟨v0, v1, v2, v3⟩ := p
  simp only [Pz.val] at A1 A2 HY HO ⊢
  have A1' : Hid _ := A1
  have A2' : Hid _ := A2
  clear A1 A2
  have X : Hid (Boxed (w.alloc (.cells #[.int .i64 v0, .int .i64 v1, .int .i64 v2, .int .i64 v3] 38)) w.heap.size #[.int .i64 v0, .int .i64 v1, .int .i64 v2, .int .i64 v3] 38 ∧ Below w.heap.size w (w.alloc (.cells #[.int .i64 v0, .int .i64 v1, .int .i64 v2, .int .i64 v3] 38))) := ⟨Boxed.new w _ _, (Below.refl _ _).alloc (Nat.le_refl _) _⟩
  go_enter Try.func47, Try.ntmps47
  go_wp2_with (refine wpList_load_row rfl 38 (.tmp 2) rfl w.heap.size rfl _ _ _ _ X.out.1 Try.underlying38 rfl (by kernel_rfl) ?_)
  refine (A1'.out _).mono ?_
  rintro e w1 ⟨rfl, q⟩
  have X1 : Hid (Boxed w1 w.heap.size #[.int .i64 v0, .int .i64 v1, .int .i64 v2, .int .i64 v3] 38 ∧ Below w.heap.size w w1) := ⟨X.out.1.below X.out.1.under q, X.out.2.trans (q.mono X.out.2.size)⟩
  clear q X
  cases ok
  · have e1 : F = -1 := HN.out rfl
    subst e1
    go_wp2
    go_ret
    exact ⟨rfl, X1.out.2⟩
  have c1 : w1.cell? ⟨w.heap.size, 1, none⟩ = some (.int .i64 v1) := X1.out.1.cell 1 rfl
  go_wp2_with fail
  refine (A2'.out _ _ (by simp)).mono ?_
  rintro e w2 ⟨rfl, rfl⟩
  have hb := X1.out.2
  have X2 : Hid (Boxed (w1.alloc (.cells #[.int .i64 n] 2)) w.heap.size #[.int .i64 v0, .int .i64 v1, .int .i64 v2, .int .i64 v3] 38 ∧ Below w.heap.size w (w1.alloc (.cells #[.int .i64 n] 2))) := ⟨X1.out.1.more _, X1.out.2.alloc hb.size _⟩
  clear hb c1 X1
  generalize w1.alloc (.cells #[.int .i64 n] 2) = w2 at X2 ⊢
  cases up
  · have e1 : F = -1 := HN.out rfl
    subst e1
    go_wp2
    go_ret
    exact ⟨rfl, X2.out.2⟩
  have e1 := HY.out (by first | exact trivial | exact rfl) (by first | exact trivial | exact rfl)
  have h := HO.out (by first | exact trivial | exact rfl) (by first | exact trivial | exact rfl)
  have E1 : Hid _ := e1
  clear e1 HN HY HO A1' A2'
  have c0 : w2.cell? ⟨w.heap.size, 0, none⟩ = some (.int .i64 v0) := X2.out.1.cell 0 rfl
  have c2 : w2.cell? ⟨w.heap.size, 2, none⟩ = some (.int .i64 v2) := X2.out.1.cell 2 rfl
  have c3 : w2.cell? ⟨w.heap.size, 3, none⟩ = some (.int .i64 v3) := X2.out.1.cell 3 rfl
  by_cases h1 : n ≤ v2
  · have e2 : F = v3 := by rw [E1.out, if_pos h1]
    subst e2
    clear h E1
    go_wp2
    go_ret
    exact ⟨rfl, X2.out.2⟩
  by_cases h2 : v0 = 0
  · have e2 : F = -1 := by rw [E1.out, if_neg h1, if_pos h2]
    subst e2
    subst h2
    clear h E1
    go_wp2
    go_ret
    exact ⟨rfl, X2.out.2⟩
  have e2 := E1.out
  rw [if_neg h1, if_neg h2] at e2
  clear E1
  have hd0 : 0 ≤ (n - v2 + v0 - 1) / v0 := Int.ediv_nonneg (by omega) (by omega)
  have hd1 : (n - v2 + v0 - 1) / v0 ≤ n - v2 + v0 - 1 := Int.ediv_le_self _ (by omega)
  have k1 : IntKind.i64.wrap (n - v2) = n - v2 := by rw [IntKind.wrap_i64]; omega
  have k5 : IntKind.i64.wrap (v3 + (n - v2 + v0 - 1) / v0) = v3 + (n - v2 + v0 - 1) / v0 := by rw [IntKind.wrap_i64]; omega
  have A3 := fun w => implBegunP (n - v2) v0 (by omega) (by omega) (by omega) (by omega) w
  generalize (n - v2 + v0 - 1) / v0 = q at A3 k5 e2
  have A4 := fun w => implTimeB (v3 + q) w
  generalize inB 0 1099511627776 (v3 + q) = tb at A4 e2
  have E2 : Hid _ := e2
  clear e2
  have A3' : Hid _ := A3
  have A4' : Hid _ := A4
  clear A3 A4 h hd0 hd1
  go_upto_region 7 with fail
  clear c0 c2 c3
  have c0 : ∀ p : BelW w2.heap.size w2, p.w'.cell? ⟨w.heap.size, 0, none⟩ = some (.int .i64 v0) := fun p => (X2.out.1.below X2.out.1.under p.h).cell 0 rfl
  have c2 : ∀ p : BelW w2.heap.size w2, p.w'.cell? ⟨w.heap.size, 2, none⟩ = some (.int .i64 v2) := fun p => (X2.out.1.below X2.out.1.under p.h).cell 2 rfl
  have c3 : ∀ p : BelW w2.heap.size w2, p.w'.cell? ⟨w.heap.size, 3, none⟩ = some (.int .i64 v3) := fun p => (X2.out.1.below X2.out.1.under p.h).cell 3 rfl
  haveI : Nonempty (BelW w2.heap.size w2) := ⟨⟨w2, Below.refl _ _⟩⟩
  refine region_below w2.heap.size (by kernel_rfl) (by kernel_rfl) ?_
  repeat (go_big_quiet_step ((go_at_call 60; refine quiet_below (Nat.le_refl _) (A3'.out _))))
  refine wpQuiet_nil ?_
  intro w3 hx
  have qb := BelW.out hx
  have X3 : Hid (Below w.heap.size w w3) := X2.out.2.trans (qb.mono X2.out.2.size)
  clear hx qb c0 c2 c3 X2 A3'
  go_wp2_with fail
  refine (A4'.out _).mono ?_
  rintro e w4 ⟨rfl, qb⟩
  have X4 : Hid (Below w.heap.size w w4) := X3.out.trans (qb.mono X3.out.size)
  clear qb X3
  cases tb
  · have e2 : F = -1 := by rw [E2.out]; rfl
    subst e2
    clear E2
    go_wp2
    go_ret
    exact ⟨rfl, X4.out⟩
  · have e2 : F = v3 + q := by rw [E2.out]; rfl
    subst e2
    clear E2
    go_wp2
    go_ret
    exact ⟨rfl, X4.out⟩
end Go.Proofs.Ytfdapmchpikfiaa

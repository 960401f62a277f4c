/-
  Steers as plain data: when one is right, stirred, hit, and stirred many times. By the verifier.
-/
import Derived.Test.YtemegnfefjcdaaaDoorSrRec
namespace Go.Proofs.YtemegnfefjcdaaaDoor
open Go.RowKit

/-- A right steer. -/
def Sr.ok (p : Sr) : Bool := inB 1 1000 p.target && (inB 0 100000 p.old && inB 0 1048576 p.prob)
theorem Sr.ok_iff {p : Sr} : p.ok = true ↔ (1 ≤ p.target ∧ p.target ≤ 1000) ∧ (0 ≤ p.old ∧ p.old ≤ 100000) ∧ (0 ≤ p.prob ∧ p.prob ≤ 1048576) := by
  unfold Sr.ok
  simp only [Bool.and_eq_true, inB_true]
/-- The divisor. -/
def byOf (x : Int) : Int := if x < 1048 then 2048 else if x < 10485 then 512 else if x < 104857 then 128 else if x < 262144 then 32 else 1
theorem byOf_in (x : Int) : 1 ≤ byOf x ∧ byOf x ≤ 2048 := by
  unfold byOf
  split
  · omega
  split
  · omega
  split
  · omega
  split <;> omega
/-- What is added, ahead of the divisor. -/
def Sr.add (p : Sr) (d : Int) : Int := (d - p.target) * 2 + (d - p.old) * 20
/-- Prob with it, within its bounds. -/
def Sr.raw (p : Sr) (d : Int) : Int := max 0 (min 1048576 (p.prob + Int.tdiv (p.add d) (byOf p.prob)))
/-- Stirred, of a right steer and delay. -/
def Sr.stir (p : Sr) (d : Int) : Sr := ⟨p.target, d, if d = 0 ∧ p.old = 0 then p.raw d - p.raw d / 64 else p.raw d⟩
def Sr.stirred (p : Sr) (d : Int) : Sr := if p.ok = true then (if inB 0 100000 d = true then p.stir d else p) else ⟨0, 0, 0⟩
def Sr.hit (p : Sr) (x : Int) : Bool := p.ok && (inB 0 1048575 x && decide (x < p.prob))
/-- Stirred so many times. -/
def Sr.times (p : Sr) (d : Int) : Nat → Sr
  | 0 => p
  | n + 1 => (p.times d n).stir d
def Sr.settled (p : Sr) (d n : Int) : Sr := if p.ok = true then (if inB 0 100000 d = true ∧ inB 0 1000 n = true then p.times d n.toNat else p) else ⟨0, 0, 0⟩
theorem tdiv_le (x b : Int) : -(x.natAbs : Int) ≤ Int.tdiv x b ∧ Int.tdiv x b ≤ x.natAbs := by
  have h1 : (Int.tdiv x b).natAbs = x.natAbs / b.natAbs := Int.natAbs_tdiv x b
  have h2 : x.natAbs / b.natAbs ≤ x.natAbs := Nat.div_le_self _ _
  omega
theorem Sr.raw_in (p : Sr) (d : Int) : 0 ≤ p.raw d ∧ p.raw d ≤ 1048576 := by
  unfold Sr.raw
  omega
theorem Sr.stir_prob (p : Sr) (d : Int) : 0 ≤ (p.stir d).prob ∧ (p.stir d).prob ≤ 1048576 := by
  have h := p.raw_in d
  unfold Sr.stir
  simp only
  split <;> omega
theorem Sr.stir_ok {p : Sr} {d : Int} (h : p.ok = true) (hd : inB 0 100000 d = true) : (p.stir d).ok = true := by
  have h1 := Sr.ok_iff.1 h
  rw [inB_true] at hd
  rw [Sr.ok_iff]
  exact ⟨h1.1, hd, p.stir_prob d⟩
theorem Sr.times_ok {p : Sr} {d : Int} (h : p.ok = true) (hd : inB 0 100000 d = true) (n : Nat) : (p.times d n).ok = true := by
  induction n with
  | zero => exact h
  | succ n ih => exact Sr.stir_ok ih hd
/-- The numbers that come up on the way. -/
theorem Sr.wraps {p : Sr} {d : Int} (h : p.ok = true) (hd : inB 0 100000 d = true) : IntKind.i64.wrap (d - p.target) = d - p.target ∧ IntKind.i64.wrap ((d - p.target) * 2) = (d - p.target) * 2 ∧ IntKind.i64.wrap (d - p.old) = d - p.old ∧ IntKind.i64.wrap ((d - p.old) * 20) = (d - p.old) * 20 ∧
    IntKind.i64.wrap ((d - p.target) * 2 + (d - p.old) * 20) = p.add d ∧ IntKind.i64.wrap (Int.tdiv (p.add d) (byOf p.prob)) = Int.tdiv (p.add d) (byOf p.prob) ∧ IntKind.i64.wrap (p.prob + Int.tdiv (p.add d) (byOf p.prob)) = p.prob + Int.tdiv (p.add d) (byOf p.prob) := by
  have h1 := Sr.ok_iff.1 h
  rw [inB_true] at hd
  have h2 := tdiv_le (p.add d) (byOf p.prob)
  have h3 : p.add d = (d - p.target) * 2 + (d - p.old) * 20 := rfl
  generalize Int.tdiv (p.add d) (byOf p.prob) = q at h2 ⊢
  generalize p.add d = s at h2 h3 ⊢
  rw [IntKind.wrap_i64, IntKind.wrap_i64, IntKind.wrap_i64, IntKind.wrap_i64, IntKind.wrap_i64, IntKind.wrap_i64, IntKind.wrap_i64]
  omega
end Go.Proofs.YtemegnfefjcdaaaDoor

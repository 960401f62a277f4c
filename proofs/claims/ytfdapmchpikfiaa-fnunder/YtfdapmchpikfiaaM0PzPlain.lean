import Derived.RowKit3
import Derived.Below
import Derived.Test.YtfdapmchpikfiaaFrPlain
import Derived.Test.YtfdapmchpikfiaaRows
/-
  A record of 4 numbers (Purse) as plain data. By the verifier, by program.
-/
namespace Go.Proofs.Ytfdapmchpikfiaa
open Go.RowKit

structure Pz where
  rate : Int
  burst : Int
  level : Int
  tm : Int
/-- As a value. -/
def Pz.val (r : Pz) : Value := .agg #[.int .i64 r.rate, .int .i64 r.burst, .int .i64 r.level, .int .i64 r.tm]
/-- Its cells. -/
def Pz.cells (r : Pz) : List Value := [.int .i64 r.rate, .int .i64 r.burst, .int .i64 r.level, .int .i64 r.tm]
theorem pzInfo : (Try.prog.info? 38).map (fun i => (i.zero, i.size, i.bytes)) = some (some (.agg #[.int .i64 0, .int .i64 0, .int .i64 0, .int .i64 0]), 4, 32) := by kernel_rfl
theorem pzOnes (v0 v1 v2 v3 : Int) : (#[Value.int .i64 v0, Value.int .i64 v1, Value.int .i64 v2, Value.int .i64 v3] : Array Value).all (·.oneCell') = true := by simp [Value.oneCell']
end Go.Proofs.Ytfdapmchpikfiaa

/-
  Purses as plain data: when one is right, filled, spent, and when there is so much. By the verifier.
-/
namespace Go.Proofs.Ytfdapmchpikfiaa
open Go.RowKit

/-- A right purse. -/
def Pz.ok (p : Pz) : Bool := inB 0 1000 p.rate && (inB 1 100000 p.burst && (inB 0 p.burst p.level && inB 0 1099511627776 p.tm))
theorem Pz.ok_iff {p : Pz} : p.ok = true ↔ (0 ≤ p.rate ∧ p.rate ≤ 1000) ∧ (1 ≤ p.burst ∧ p.burst ≤ 100000) ∧ (0 ≤ p.level ∧ p.level ≤ p.burst) ∧ (0 ≤ p.tm ∧ p.tm ≤ 1099511627776) := by
  unfold Pz.ok
  simp only [Bool.and_eq_true, inB_true]
/-- Filled, at a time that is right. -/
def Pz.fill (p : Pz) (now : Int) : Pz := ⟨p.rate, p.burst, min p.burst (p.level + p.rate * (now - p.tm)), now⟩
def Pz.at' (p : Pz) (now : Int) : Bool := inB p.tm 1099511627776 now
def Pz.filled (p : Pz) (now : Int) : Pz := if p.ok = true then (if p.at' now = true then p.fill now else p) else ⟨0, 0, 0, 0⟩
def Pz.may (p : Pz) (now n : Int) : Bool := decide (0 ≤ n) && decide (n ≤ (p.fill now).level)
def Pz.spent (p : Pz) (now n : Int) : Pz := if p.ok = true then (if p.at' now = true then (if p.may now n = true then ⟨p.rate, p.burst, (p.fill now).level - n, now⟩ else p.fill now) else p) else ⟨0, 0, 0, 0⟩
def Pz.spentB (p : Pz) (now n : Int) : Bool := p.ok && (p.at' now && p.may now n)
/-- The time at which there is so much. -/
def Pz.whenL (p : Pz) (n : Int) : Int := if n ≤ p.level then p.tm else if p.rate = 0 ∨ p.burst < n then -1 else if 1099511627776 < p.tm + (n - p.level + p.rate - 1) / p.rate then -1 else p.tm + (n - p.level + p.rate - 1) / p.rate
def Pz.when (p : Pz) (n : Int) : Int := if p.ok = true ∧ 0 ≤ n then p.whenL n else -1
theorem mul_small {a b : Int} (a0 : 0 ≤ a) (a1 : a ≤ 1000) (b0 : 0 ≤ b) (b1 : b ≤ 1099511627776) : 0 ≤ a * b ∧ a * b ≤ 1099511627776000 := by
  constructor
  · exact Int.mul_nonneg a0 b0
  · have := Int.mul_le_mul a1 b1 b0 (by omega)
    omega
end Go.Proofs.Ytfdapmchpikfiaa

/-
  Paces as plain data: what is let through early, and leaking; both let the same through. By the verifier.
-/
import Derived.Test.YtkdofeanpcbihaaPeRec
namespace Go.Proofs.Ytkdofeanpcbihaa
open Go.RowKit

/-- A right pace. -/
def Pe.ok (p : Pe) : Bool := inB 1 1000 p.gap && (inB 0 10000 p.slack && (inB 0 1099511627776 p.next && (inB 0 1099511627776 p.fill && inB 0 1099511627776 p.last)))
theorem Pe.ok_iff {p : Pe} : p.ok = true ↔ (1 ≤ p.gap ∧ p.gap ≤ 1000) ∧ (0 ≤ p.slack ∧ p.slack ≤ 10000) ∧ (0 ≤ p.next ∧ p.next ≤ 1099511627776) ∧ (0 ≤ p.fill ∧ p.fill ≤ 1099511627776) ∧ (0 ≤ p.last ∧ p.last ≤ 1099511627776) := by
  unfold Pe.ok
  simp only [Bool.and_eq_true, inB_true]
def Pe.earlyB (p : Pe) (now : Int) : Bool := p.ok && (inB 0 1099511627776 now && (decide (p.next ≤ now + p.slack) && decide (max p.next now + p.gap ≤ 1099511627776)))
def Pe.early (p : Pe) (now : Int) : Pe := if p.earlyB now = true then ⟨p.gap, p.slack, max p.next now + p.gap, p.fill, p.last⟩ else p
/-- What is left of it. -/
def Pe.left (p : Pe) (now : Int) : Int := max 0 (p.fill - (now - p.last))
def Pe.leakyB (p : Pe) (now : Int) : Bool := p.ok && (inB 0 1099511627776 now && (decide (p.last ≤ now) && decide (p.left now ≤ p.slack)))
def Pe.leaky (p : Pe) (now : Int) : Pe := if p.leakyB now = true then ⟨p.gap, p.slack, p.next, p.left now + p.gap, now⟩ else p
end Go.Proofs.Ytkdofeanpcbihaa

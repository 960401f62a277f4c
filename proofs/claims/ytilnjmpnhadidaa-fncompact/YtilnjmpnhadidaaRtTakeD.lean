/-
  What Take answers; of the walk of the model's Take. By the verifier.
-/
import Derived.Test.YtilnjmpnhadidaaRtApp
import Derived.Test.YtilnjmpnhadidaaRtOkS
import Derived.Test.YtilnjmpnhadidaaRtHop
import Derived.Test.YtilnjmpnhadidaaRtSub
namespace Go.Proofs.Ytilnjmpnhadidaa
open Go.RowKit

/-- What is left, and whether it was there. -/
def takeL (l : List Rt) (net bits : Int) : List Rt := if rtsOk l = true then (if atN l net bits < l.length then l.take (atN l net bits) ++ l.drop (atN l net bits + 1) else l) else []
def takeB (l : List Rt) (net bits : Int) : Bool := rtsOk l && decide (atN l net bits < l.length)

def tkPr (base : Nat) (W : World) (S : Value) (l : List Rt) (k n : Nat) : Nat → World → Value → Prop := fun i w v =>
  if i = 0 then RRow base w v [] else if i = 1 ∨ i = 5 then v = S else if i = 2 ∨ i = 6 then v = .int .i64 (k : Int)
  else if i = 3 then ∃ a c, v = .slice a k c ∧ a ≠ none ∧ RtsAt W a (l.take k) else if i = 4 then RRow base w v (l.take k) else if i = 7 then v = .int .i64 ((k : Int) + 1)
  else if i = 8 then ∃ a c, v = .slice a (n - (k + 1)) c ∧ a ≠ none ∧ RtsAt W a (l.drop (k + 1)) else if i = 9 ∨ i = 10 then RRow base w v (l.take k ++ l.drop (k + 1)) else v = .bool true
def tkR (base : Nat) : Nat → World → World → Prop := fun i w w' => if i = 4 ∨ i = 9 then Below base w w' else (w' = w ∨ ∃ o, w' = w.alloc o)
def tkUse : Nat → Nat := fun j => if j = 0 then 4 else if j = 4 then 9 else 12

theorem no_false {p : Prop} {b : Bool} (h1 : b = false) (h2 : b = true) : p := by rw [h1] at h2; cases h2
end Go.Proofs.Ytilnjmpnhadidaa

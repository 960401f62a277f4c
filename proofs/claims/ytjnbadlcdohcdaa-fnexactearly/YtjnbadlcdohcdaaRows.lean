/-
  No cell of these rows narrows 'for every input' (looked for: loops, veiled, ifaces, maps, wideKeys, modest, calm, conditions, laid).
  DERIVED. THE GIVEN ROWS OF THIS SEAT. 6 by the template 'for every input the law returns true; each argument reads behind the call as it read before'; 0 by the template 'total and deterministic' (their statements: YtjnbadlcdohcdaaTotals.lean).
  GIVEN WITH THE SEED: the statements are not yours to turn. If you find one false, say at which input.
  Laid BY PROGRAM, IN A SANDBOX (cutbox-rows.mjs): the forced cells as the released guide's own fill.sh prints them over the translation 6dbe9093384ccfd0… (all of the seat's roots in one cut). By AI agents, Wed Nov 11 2026. No macro, syntax, notation, axiom, sorry.
-/
import Derived.Test.YtjnbadlcdohcdaaChecked
import GoSem.Claim
import GoSem.ClaimJoined
import GoSem.ClaimMapViews
import Derived.JoinedTies
import Derived.KernelRfl
namespace Go.Proofs.Ytjnbadlcdohcdaa
/- THE CELL 'sum', in the pinned program and in every row, IS THE sha256 OF THE DUMP (.gsa) THAT YtjnbadlcdohcdaaProg.lean LOADS. Nothing in Lean hashes anything: it is a label: what it is worth is what the hold of that sum in a sandbox is worth. -/
noncomputable def Try.pinned : Pinned := { name := "ytjnbadlcdohcdaa", sum := "6dbe9093384ccfd01ecb3704be6f6d81b26a9e4716d1ede9d645e91f1ee692fa", checked := Try.checked }
namespace Rows
def none {H : Type} : Left H := { results := [], args := [] }

/-- 'laws.FnExactPurseOk': WHATEVER THE INPUT: true; the input reads as it did. -/
def fnExactPurseOkSpec : ChangeSpec := { name := "fnExactPurseOk", fn := fun _ => fun
  | [d] => { results := [.lit (.bool true)], args := [d] }
  | _ => none }
def fnExactPurseOkRow : OpenClaim := { program := "ytjnbadlcdohcdaa", sum := "6dbe9093384ccfd01ecb3704be6f6d81b26a9e4716d1ede9d645e91f1ee692fa", func := "loop.example/g00316/laws.FnExactPurseOk", spec := "fnExactPurseOk", apart := false }
def FnExactPurseOkSaid : Prop := fnExactPurseOkRow.holds Try.pinned (OpenSpec.ofChange fnExactPurseOkSpec)

/-- ITS FALSE NEIGHBOUR: 'it returns false'. Refute it at one input. -/
def fnExactPurseOkWrong : ChangeSpec := { name := "fnExactPurseOk", fn := fun _ => fun
  | [d] => { results := [.lit (.bool false)], args := [d] }
  | _ => none }
def FnExactPurseOkWrongFalsely : Prop := fnExactPurseOkRow.holds Try.pinned (OpenSpec.ofChange fnExactPurseOkWrong)

/-- 'laws.FnExactFilled': WHATEVER THE INPUT: true; the input reads as it did. -/
def fnExactFilledSpec : ChangeSpec := { name := "fnExactFilled", fn := fun _ => fun
  | [d1, d2] => { results := [.lit (.bool true)], args := [d1, d2] }
  | _ => none }
def fnExactFilledRow : OpenClaim := { program := "ytjnbadlcdohcdaa", sum := "6dbe9093384ccfd01ecb3704be6f6d81b26a9e4716d1ede9d645e91f1ee692fa", func := "loop.example/g00316/laws.FnExactFilled", spec := "fnExactFilled", apart := false }
def FnExactFilledSaid : Prop := fnExactFilledRow.holds Try.pinned (OpenSpec.ofChange fnExactFilledSpec)

/-- ITS FALSE NEIGHBOUR: 'it returns false'. Refute it at one input. -/
def fnExactFilledWrong : ChangeSpec := { name := "fnExactFilled", fn := fun _ => fun
  | [d1, d2] => { results := [.lit (.bool false)], args := [d1, d2] }
  | _ => none }
def FnExactFilledWrongFalsely : Prop := fnExactFilledRow.holds Try.pinned (OpenSpec.ofChange fnExactFilledWrong)

/-- 'laws.FnExactSpent': WHATEVER THE INPUT: true; the input reads as it did. -/
def fnExactSpentSpec : ChangeSpec := { name := "fnExactSpent", fn := fun _ => fun
  | [d1, d2, d3] => { results := [.lit (.bool true)], args := [d1, d2, d3] }
  | _ => none }
def fnExactSpentRow : OpenClaim := { program := "ytjnbadlcdohcdaa", sum := "6dbe9093384ccfd01ecb3704be6f6d81b26a9e4716d1ede9d645e91f1ee692fa", func := "loop.example/g00316/laws.FnExactSpent", spec := "fnExactSpent", apart := false }
def FnExactSpentSaid : Prop := fnExactSpentRow.holds Try.pinned (OpenSpec.ofChange fnExactSpentSpec)

/-- ITS FALSE NEIGHBOUR: 'it returns false'. Refute it at one input. -/
def fnExactSpentWrong : ChangeSpec := { name := "fnExactSpent", fn := fun _ => fun
  | [d1, d2, d3] => { results := [.lit (.bool false)], args := [d1, d2, d3] }
  | _ => none }
def FnExactSpentWrongFalsely : Prop := fnExactSpentRow.holds Try.pinned (OpenSpec.ofChange fnExactSpentWrong)

/-- 'laws.FnExactWhen': WHATEVER THE INPUT: true; the input reads as it did. -/
def fnExactWhenSpec : ChangeSpec := { name := "fnExactWhen", fn := fun _ => fun
  | [d1, d2] => { results := [.lit (.bool true)], args := [d1, d2] }
  | _ => none }
def fnExactWhenRow : OpenClaim := { program := "ytjnbadlcdohcdaa", sum := "6dbe9093384ccfd01ecb3704be6f6d81b26a9e4716d1ede9d645e91f1ee692fa", func := "loop.example/g00316/laws.FnExactWhen", spec := "fnExactWhen", apart := false }
def FnExactWhenSaid : Prop := fnExactWhenRow.holds Try.pinned (OpenSpec.ofChange fnExactWhenSpec)

/-- ITS FALSE NEIGHBOUR: 'it returns false'. Refute it at one input. -/
def fnExactWhenWrong : ChangeSpec := { name := "fnExactWhen", fn := fun _ => fun
  | [d1, d2] => { results := [.lit (.bool false)], args := [d1, d2] }
  | _ => none }
def FnExactWhenWrongFalsely : Prop := fnExactWhenRow.holds Try.pinned (OpenSpec.ofChange fnExactWhenWrong)

/-- 'laws.FnExactEarly': WHATEVER THE INPUT: true; the input reads as it did. -/
def fnExactEarlySpec : ChangeSpec := { name := "fnExactEarly", fn := fun _ => fun
  | [d1, d2] => { results := [.lit (.bool true)], args := [d1, d2] }
  | _ => none }
def fnExactEarlyRow : OpenClaim := { program := "ytjnbadlcdohcdaa", sum := "6dbe9093384ccfd01ecb3704be6f6d81b26a9e4716d1ede9d645e91f1ee692fa", func := "loop.example/g00316/laws.FnExactEarly", spec := "fnExactEarly", unfollowed := true, recurses := true, apart := false }
def FnExactEarlySaid : Prop := fnExactEarlyRow.holds Try.pinned (OpenSpec.ofChange fnExactEarlySpec)

/-- ITS FALSE NEIGHBOUR: 'it returns false'. Refute it at one input. -/
def fnExactEarlyWrong : ChangeSpec := { name := "fnExactEarly", fn := fun _ => fun
  | [d1, d2] => { results := [.lit (.bool false)], args := [d1, d2] }
  | _ => none }
def FnExactEarlyWrongFalsely : Prop := fnExactEarlyRow.holds Try.pinned (OpenSpec.ofChange fnExactEarlyWrong)

/-- 'laws.FnExactLeaky': WHATEVER THE INPUT: true; the input reads as it did. -/
def fnExactLeakySpec : ChangeSpec := { name := "fnExactLeaky", fn := fun _ => fun
  | [d1, d2] => { results := [.lit (.bool true)], args := [d1, d2] }
  | _ => none }
def fnExactLeakyRow : OpenClaim := { program := "ytjnbadlcdohcdaa", sum := "6dbe9093384ccfd01ecb3704be6f6d81b26a9e4716d1ede9d645e91f1ee692fa", func := "loop.example/g00316/laws.FnExactLeaky", spec := "fnExactLeaky", unfollowed := true, recurses := true, apart := false }
def FnExactLeakySaid : Prop := fnExactLeakyRow.holds Try.pinned (OpenSpec.ofChange fnExactLeakySpec)

/-- ITS FALSE NEIGHBOUR: 'it returns false'. Refute it at one input. -/
def fnExactLeakyWrong : ChangeSpec := { name := "fnExactLeaky", fn := fun _ => fun
  | [d1, d2] => { results := [.lit (.bool false)], args := [d1, d2] }
  | _ => none }
def FnExactLeakyWrongFalsely : Prop := fnExactLeakyRow.holds Try.pinned (OpenSpec.ofChange fnExactLeakyWrong)

/- THE SECOND FORM. 'bulk': how many values and letters a reading holds, each counted each time it is reached (what is shared counts as often as it is met; a slice's spare places count too). A statement '..UptoSaid' is the law's where the arguments, and the package variables that the reading takes, are together of bulk at most 1048576: NARROWER than '..Said'. Prove '..Said' where nothing that the law and all that it calls make is longer than what came in: it says more and counts as full. Else prove '..UptoSaid'. A law counts once. -/
mutual
def uptoBulk {H : Type} : DataW H → Nat
  | .lit (.string bytes) => bytes.length + 1
  | .lit _ => 1
  | .nil => 1
  | .ptr d => uptoBulk d + 1
  | .slice elems spare => uptoBulkAll elems + uptoBulkAll spare + 1
  | .agg parts => uptoBulkAll parts + 1
  | .iface _ d => uptoBulk d + 1
  | .map entries => uptoBulkEntries entries + 1
  | .held _ => 1
def uptoBulkAll {H : Type} : List (DataW H) → Nat
  | [] => 0
  | d :: r => uptoBulk d + uptoBulkAll r
def uptoBulkEntries {H : Type} : List (Lit × DataW H) → Nat
  | [] => 0
  | x :: r => uptoBulkEntry x + uptoBulkEntries r
def uptoBulkEntry {H : Type} : Lit × DataW H → Nat
  | (.string bytes, d) => bytes.length + uptoBulk d + 1
  | (_, d) => uptoBulk d + 1
 end
def uptoSmall : (H : Type) → List (DataW H) → Bool := fun _ ds => decide (uptoBulkAll ds ≤ 1048576)
def OpenSpec.upto (s : _root_.Go.ChangeSpec) : _root_.Go.OpenSpec := { _root_.Go.OpenSpec.ofChange s with cond := some uptoSmall }

/-- 'laws.FnExactPurseOk', WHERE WHAT IT READS IS OF BULK AT MOST 1048576: true; the input reads as it did. -/
def fnExactPurseOkUptoRow : OpenClaim := { program := "ytjnbadlcdohcdaa", sum := "6dbe9093384ccfd01ecb3704be6f6d81b26a9e4716d1ede9d645e91f1ee692fa", func := "loop.example/g00316/laws.FnExactPurseOk", spec := "fnExactPurseOk", apart := false, narrowed := true }
def FnExactPurseOkUptoSaid : Prop := fnExactPurseOkUptoRow.holds Try.pinned (OpenSpec.upto fnExactPurseOkSpec)

/-- 'laws.FnExactFilled', WHERE WHAT IT READS IS OF BULK AT MOST 1048576: true; the input reads as it did. -/
def fnExactFilledUptoRow : OpenClaim := { program := "ytjnbadlcdohcdaa", sum := "6dbe9093384ccfd01ecb3704be6f6d81b26a9e4716d1ede9d645e91f1ee692fa", func := "loop.example/g00316/laws.FnExactFilled", spec := "fnExactFilled", apart := false, narrowed := true }
def FnExactFilledUptoSaid : Prop := fnExactFilledUptoRow.holds Try.pinned (OpenSpec.upto fnExactFilledSpec)

/-- 'laws.FnExactSpent', WHERE WHAT IT READS IS OF BULK AT MOST 1048576: true; the input reads as it did. -/
def fnExactSpentUptoRow : OpenClaim := { program := "ytjnbadlcdohcdaa", sum := "6dbe9093384ccfd01ecb3704be6f6d81b26a9e4716d1ede9d645e91f1ee692fa", func := "loop.example/g00316/laws.FnExactSpent", spec := "fnExactSpent", apart := false, narrowed := true }
def FnExactSpentUptoSaid : Prop := fnExactSpentUptoRow.holds Try.pinned (OpenSpec.upto fnExactSpentSpec)

/-- 'laws.FnExactWhen', WHERE WHAT IT READS IS OF BULK AT MOST 1048576: true; the input reads as it did. -/
def fnExactWhenUptoRow : OpenClaim := { program := "ytjnbadlcdohcdaa", sum := "6dbe9093384ccfd01ecb3704be6f6d81b26a9e4716d1ede9d645e91f1ee692fa", func := "loop.example/g00316/laws.FnExactWhen", spec := "fnExactWhen", apart := false, narrowed := true }
def FnExactWhenUptoSaid : Prop := fnExactWhenUptoRow.holds Try.pinned (OpenSpec.upto fnExactWhenSpec)

/-- 'laws.FnExactEarly', WHERE WHAT IT READS IS OF BULK AT MOST 1048576: true; the input reads as it did. -/
def fnExactEarlyUptoRow : OpenClaim := { program := "ytjnbadlcdohcdaa", sum := "6dbe9093384ccfd01ecb3704be6f6d81b26a9e4716d1ede9d645e91f1ee692fa", func := "loop.example/g00316/laws.FnExactEarly", spec := "fnExactEarly", unfollowed := true, recurses := true, apart := false, narrowed := true }
def FnExactEarlyUptoSaid : Prop := fnExactEarlyUptoRow.holds Try.pinned (OpenSpec.upto fnExactEarlySpec)

/-- 'laws.FnExactLeaky', WHERE WHAT IT READS IS OF BULK AT MOST 1048576: true; the input reads as it did. -/
def fnExactLeakyUptoRow : OpenClaim := { program := "ytjnbadlcdohcdaa", sum := "6dbe9093384ccfd01ecb3704be6f6d81b26a9e4716d1ede9d645e91f1ee692fa", func := "loop.example/g00316/laws.FnExactLeaky", spec := "fnExactLeaky", unfollowed := true, recurses := true, apart := false, narrowed := true }
def FnExactLeakyUptoSaid : Prop := fnExactLeakyUptoRow.holds Try.pinned (OpenSpec.upto fnExactLeakySpec)

end Rows
end Go.Proofs.Ytjnbadlcdohcdaa

/-
  No cell of these rows narrows 'for every input' (looked for: loops, veiled, ifaces, maps, wideKeys, modest, calm, conditions, laid).
  DERIVED. THE GIVEN ROWS OF THIS SEAT. 5 by the template 'for every input the law returns true; each argument reads behind the call as it read before'; 0 by the template 'total and deterministic' (their statements: YtjcjhmimgpgfoaaTotals.lean).
  GIVEN WITH THE SEED: the statements are not yours to turn. If you find one false, say at which input.
  Laid BY PROGRAM, IN A SANDBOX (cutbox-rows.mjs): the forced cells as the released guide's own fill.sh prints them over the translation 355ee2ac9a6a7b57… (all of the seat's roots in one cut). By AI agents, Wed Nov 11 2026. No macro, syntax, notation, axiom, sorry.
-/
import Derived.Test.YtjcjhmimgpgfoaaChecked
import GoSem.Claim
import GoSem.ClaimJoined
import GoSem.ClaimMapViews
import Derived.JoinedTies
import Derived.KernelRfl
namespace Go.Proofs.Ytjcjhmimgpgfoaa
/- THE CELL 'sum', in the pinned program and in every row, IS THE sha256 OF THE DUMP (.gsa) THAT YtjcjhmimgpgfoaaProg.lean LOADS. Nothing in Lean hashes anything: it is a label: what it is worth is what the hold of that sum in a sandbox is worth. -/
noncomputable def Try.pinned : Pinned := { name := "ytjcjhmimgpgfoaa", sum := "355ee2ac9a6a7b57e23b0b7d211ee5b3cf00085e413634a524ffc59703fce33f", checked := Try.checked }
namespace Rows
def none {H : Type} : Left H := { results := [], args := [] }

/-- 'laws.FnExactFairOk': WHATEVER THE INPUT: true; the input reads as it did. -/
def fnExactFairOkSpec : ChangeSpec := { name := "fnExactFairOk", fn := fun _ => fun
  | [d] => { results := [.lit (.bool true)], args := [d] }
  | _ => none }
def fnExactFairOkRow : OpenClaim := { program := "ytjcjhmimgpgfoaa", sum := "355ee2ac9a6a7b57e23b0b7d211ee5b3cf00085e413634a524ffc59703fce33f", func := "loop.example/g00316/laws.FnExactFairOk", spec := "fnExactFairOk", unfollowed := true, recurses := true, apart := false }
def FnExactFairOkSaid : Prop := fnExactFairOkRow.holds Try.pinned (OpenSpec.ofChange fnExactFairOkSpec)

/-- ITS FALSE NEIGHBOUR: 'it returns false'. Refute it at one input. -/
def fnExactFairOkWrong : ChangeSpec := { name := "fnExactFairOk", fn := fun _ => fun
  | [d] => { results := [.lit (.bool false)], args := [d] }
  | _ => none }
def FnExactFairOkWrongFalsely : Prop := fnExactFairOkRow.holds Try.pinned (OpenSpec.ofChange fnExactFairOkWrong)

/-- 'laws.FnExactBegins': WHATEVER THE INPUT: true; the input reads as it did. -/
def fnExactBeginsSpec : ChangeSpec := { name := "fnExactBegins", fn := fun _ => fun
  | [d1, d2] => { results := [.lit (.bool true)], args := [d1, d2] }
  | _ => none }
def fnExactBeginsRow : OpenClaim := { program := "ytjcjhmimgpgfoaa", sum := "355ee2ac9a6a7b57e23b0b7d211ee5b3cf00085e413634a524ffc59703fce33f", func := "loop.example/g00316/laws.FnExactBegins", spec := "fnExactBegins", unfollowed := true, recurses := true, apart := false }
def FnExactBeginsSaid : Prop := fnExactBeginsRow.holds Try.pinned (OpenSpec.ofChange fnExactBeginsSpec)

/-- ITS FALSE NEIGHBOUR: 'it returns false'. Refute it at one input. -/
def fnExactBeginsWrong : ChangeSpec := { name := "fnExactBegins", fn := fun _ => fun
  | [d1, d2] => { results := [.lit (.bool false)], args := [d1, d2] }
  | _ => none }
def FnExactBeginsWrongFalsely : Prop := fnExactBeginsRow.holds Try.pinned (OpenSpec.ofChange fnExactBeginsWrong)

/-- 'laws.FnExactQueued': WHATEVER THE INPUT: true; the input reads as it did. -/
def fnExactQueuedSpec : ChangeSpec := { name := "fnExactQueued", fn := fun _ => fun
  | [d1, d2, d3] => { results := [.lit (.bool true)], args := [d1, d2, d3] }
  | _ => none }
def fnExactQueuedRow : OpenClaim := { program := "ytjcjhmimgpgfoaa", sum := "355ee2ac9a6a7b57e23b0b7d211ee5b3cf00085e413634a524ffc59703fce33f", func := "loop.example/g00316/laws.FnExactQueued", spec := "fnExactQueued", unfollowed := true, recurses := true, apart := false }
def FnExactQueuedSaid : Prop := fnExactQueuedRow.holds Try.pinned (OpenSpec.ofChange fnExactQueuedSpec)

/-- ITS FALSE NEIGHBOUR: 'it returns false'. Refute it at one input. -/
def fnExactQueuedWrong : ChangeSpec := { name := "fnExactQueued", fn := fun _ => fun
  | [d1, d2, d3] => { results := [.lit (.bool false)], args := [d1, d2, d3] }
  | _ => none }
def FnExactQueuedWrongFalsely : Prop := fnExactQueuedRow.holds Try.pinned (OpenSpec.ofChange fnExactQueuedWrong)

/-- 'laws.FnExactChosen': WHATEVER THE INPUT: true; the input reads as it did. -/
def fnExactChosenSpec : ChangeSpec := { name := "fnExactChosen", fn := fun _ => fun
  | [d] => { results := [.lit (.bool true)], args := [d] }
  | _ => none }
def fnExactChosenRow : OpenClaim := { program := "ytjcjhmimgpgfoaa", sum := "355ee2ac9a6a7b57e23b0b7d211ee5b3cf00085e413634a524ffc59703fce33f", func := "loop.example/g00316/laws.FnExactChosen", spec := "fnExactChosen", unfollowed := true, recurses := true, apart := false }
def FnExactChosenSaid : Prop := fnExactChosenRow.holds Try.pinned (OpenSpec.ofChange fnExactChosenSpec)

/-- ITS FALSE NEIGHBOUR: 'it returns false'. Refute it at one input. -/
def fnExactChosenWrong : ChangeSpec := { name := "fnExactChosen", fn := fun _ => fun
  | [d] => { results := [.lit (.bool false)], args := [d] }
  | _ => none }
def FnExactChosenWrongFalsely : Prop := fnExactChosenRow.holds Try.pinned (OpenSpec.ofChange fnExactChosenWrong)

/-- 'laws.FnExactServed': WHATEVER THE INPUT: true; the input reads as it did. -/
def fnExactServedSpec : ChangeSpec := { name := "fnExactServed", fn := fun _ => fun
  | [d] => { results := [.lit (.bool true)], args := [d] }
  | _ => none }
def fnExactServedRow : OpenClaim := { program := "ytjcjhmimgpgfoaa", sum := "355ee2ac9a6a7b57e23b0b7d211ee5b3cf00085e413634a524ffc59703fce33f", func := "loop.example/g00316/laws.FnExactServed", spec := "fnExactServed", unfollowed := true, recurses := true, apart := false }
def FnExactServedSaid : Prop := fnExactServedRow.holds Try.pinned (OpenSpec.ofChange fnExactServedSpec)

/-- ITS FALSE NEIGHBOUR: 'it returns false'. Refute it at one input. -/
def fnExactServedWrong : ChangeSpec := { name := "fnExactServed", fn := fun _ => fun
  | [d] => { results := [.lit (.bool false)], args := [d] }
  | _ => none }
def FnExactServedWrongFalsely : Prop := fnExactServedRow.holds Try.pinned (OpenSpec.ofChange fnExactServedWrong)

/- THE SECOND FORM. 'bulk': how many values and letters a reading holds, each counted each time it is reached (what is shared counts as often as it is met; a slice's spare places count too). A statement '..UptoSaid' is the law's where the arguments, and the package variables that the reading takes, are together of bulk at most 1048576: NARROWER than '..Said'. Prove '..Said' where nothing that the law and all that it calls make is longer than what came in: it says more and counts as full. Else prove '..UptoSaid'. A law counts once. -/
mutual
def uptoBulk {H : Type} : DataW H → Nat
  | .lit (.string bytes) => bytes.length + 1
  | .lit _ => 1
  | .nil => 1
  | .ptr d => uptoBulk d + 1
  | .slice elems spare => uptoBulkAll elems + uptoBulkAll spare + 1
  | .agg parts => uptoBulkAll parts + 1
  | .iface _ d => uptoBulk d + 1
  | .map entries => uptoBulkEntries entries + 1
  | .held _ => 1
def uptoBulkAll {H : Type} : List (DataW H) → Nat
  | [] => 0
  | d :: r => uptoBulk d + uptoBulkAll r
def uptoBulkEntries {H : Type} : List (Lit × DataW H) → Nat
  | [] => 0
  | x :: r => uptoBulkEntry x + uptoBulkEntries r
def uptoBulkEntry {H : Type} : Lit × DataW H → Nat
  | (.string bytes, d) => bytes.length + uptoBulk d + 1
  | (_, d) => uptoBulk d + 1
 end
def uptoSmall : (H : Type) → List (DataW H) → Bool := fun _ ds => decide (uptoBulkAll ds ≤ 1048576)
def OpenSpec.upto (s : _root_.Go.ChangeSpec) : _root_.Go.OpenSpec := { _root_.Go.OpenSpec.ofChange s with cond := some uptoSmall }

/-- 'laws.FnExactFairOk', WHERE WHAT IT READS IS OF BULK AT MOST 1048576: true; the input reads as it did. -/
def fnExactFairOkUptoRow : OpenClaim := { program := "ytjcjhmimgpgfoaa", sum := "355ee2ac9a6a7b57e23b0b7d211ee5b3cf00085e413634a524ffc59703fce33f", func := "loop.example/g00316/laws.FnExactFairOk", spec := "fnExactFairOk", unfollowed := true, recurses := true, apart := false, narrowed := true }
def FnExactFairOkUptoSaid : Prop := fnExactFairOkUptoRow.holds Try.pinned (OpenSpec.upto fnExactFairOkSpec)

/-- 'laws.FnExactBegins', WHERE WHAT IT READS IS OF BULK AT MOST 1048576: true; the input reads as it did. -/
def fnExactBeginsUptoRow : OpenClaim := { program := "ytjcjhmimgpgfoaa", sum := "355ee2ac9a6a7b57e23b0b7d211ee5b3cf00085e413634a524ffc59703fce33f", func := "loop.example/g00316/laws.FnExactBegins", spec := "fnExactBegins", unfollowed := true, recurses := true, apart := false, narrowed := true }
def FnExactBeginsUptoSaid : Prop := fnExactBeginsUptoRow.holds Try.pinned (OpenSpec.upto fnExactBeginsSpec)

/-- 'laws.FnExactQueued', WHERE WHAT IT READS IS OF BULK AT MOST 1048576: true; the input reads as it did. -/
def fnExactQueuedUptoRow : OpenClaim := { program := "ytjcjhmimgpgfoaa", sum := "355ee2ac9a6a7b57e23b0b7d211ee5b3cf00085e413634a524ffc59703fce33f", func := "loop.example/g00316/laws.FnExactQueued", spec := "fnExactQueued", unfollowed := true, recurses := true, apart := false, narrowed := true }
def FnExactQueuedUptoSaid : Prop := fnExactQueuedUptoRow.holds Try.pinned (OpenSpec.upto fnExactQueuedSpec)

/-- 'laws.FnExactChosen', WHERE WHAT IT READS IS OF BULK AT MOST 1048576: true; the input reads as it did. -/
def fnExactChosenUptoRow : OpenClaim := { program := "ytjcjhmimgpgfoaa", sum := "355ee2ac9a6a7b57e23b0b7d211ee5b3cf00085e413634a524ffc59703fce33f", func := "loop.example/g00316/laws.FnExactChosen", spec := "fnExactChosen", unfollowed := true, recurses := true, apart := false, narrowed := true }
def FnExactChosenUptoSaid : Prop := fnExactChosenUptoRow.holds Try.pinned (OpenSpec.upto fnExactChosenSpec)

/-- 'laws.FnExactServed', WHERE WHAT IT READS IS OF BULK AT MOST 1048576: true; the input reads as it did. -/
def fnExactServedUptoRow : OpenClaim := { program := "ytjcjhmimgpgfoaa", sum := "355ee2ac9a6a7b57e23b0b7d211ee5b3cf00085e413634a524ffc59703fce33f", func := "loop.example/g00316/laws.FnExactServed", spec := "fnExactServed", unfollowed := true, recurses := true, apart := false, narrowed := true }
def FnExactServedUptoSaid : Prop := fnExactServedUptoRow.holds Try.pinned (OpenSpec.upto fnExactServedSpec)

end Rows
end Go.Proofs.Ytjcjhmimgpgfoaa

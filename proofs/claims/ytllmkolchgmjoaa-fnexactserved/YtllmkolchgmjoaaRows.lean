/-
  No cell of these rows narrows 'for every input' (looked for: loops, veiled, ifaces, maps, wideKeys, modest, calm, conditions, laid).
  DERIVED. THE GIVEN ROWS OF THIS SEAT. 4 by the template 'for every input the law returns true; each argument reads behind the call as it read before'; 0 by the template 'total and deterministic' (their statements: YtllmkolchgmjoaaTotals.lean).
  GIVEN WITH THE SEED: the statements are not yours to turn. If you find one false, say at which input.
  Laid BY PROGRAM, IN A SANDBOX (cutbox-rows.mjs): the forced cells as the released guide's own fill.sh prints them over the translation 55637c3dfd1bce74… (all of the seat's roots in one cut). By AI agents, Wed Nov 11 2026. No macro, syntax, notation, axiom, sorry.
-/
import Derived.Test.YtllmkolchgmjoaaChecked
import GoSem.Claim
import GoSem.ClaimJoined
import GoSem.ClaimMapViews
import Derived.JoinedTies
import Derived.KernelRfl
namespace Go.Proofs.Ytllmkolchgmjoaa
/- THE CELL 'sum', in the pinned program and in every row, IS THE sha256 OF THE DUMP (.gsa) THAT YtllmkolchgmjoaaProg.lean LOADS. Nothing in Lean hashes anything: it is a label: what it is worth is what the hold of that sum in a sandbox is worth. -/
noncomputable def Try.pinned : Pinned := { name := "ytllmkolchgmjoaa", sum := "55637c3dfd1bce74885046210c6c499463954e46a6705de19a945843c2628958", checked := Try.checked }
namespace Rows
def none {H : Type} : Left H := { results := [], args := [] }

/-- 'laws.FnGoyal': WHATEVER THE INPUT: true; the input reads as it did. -/
def fnGoyalSpec : ChangeSpec := { name := "fnGoyal", fn := fun _ => fun
  | [d] => { results := [.lit (.bool true)], args := [d] }
  | _ => none }
def fnGoyalRow : OpenClaim := { program := "ytllmkolchgmjoaa", sum := "55637c3dfd1bce74885046210c6c499463954e46a6705de19a945843c2628958", func := "loop.example/g00316/laws.FnGoyal", spec := "fnGoyal", unfollowed := true, recurses := true, apart := false }
def FnGoyalSaid : Prop := fnGoyalRow.holds Try.pinned (OpenSpec.ofChange fnGoyalSpec)

/-- ITS FALSE NEIGHBOUR: 'it returns false'. Refute it at one input. -/
def fnGoyalWrong : ChangeSpec := { name := "fnGoyal", fn := fun _ => fun
  | [d] => { results := [.lit (.bool false)], args := [d] }
  | _ => none }
def FnGoyalWrongFalsely : Prop := fnGoyalRow.holds Try.pinned (OpenSpec.ofChange fnGoyalWrong)

/-- 'laws.FnFairs': WHATEVER THE INPUT: true; the input reads as it did. -/
def fnFairsSpec : ChangeSpec := { name := "fnFairs", fn := fun _ => fun
  | [d] => { results := [.lit (.bool true)], args := [d] }
  | _ => none }
def fnFairsRow : OpenClaim := { program := "ytllmkolchgmjoaa", sum := "55637c3dfd1bce74885046210c6c499463954e46a6705de19a945843c2628958", func := "loop.example/g00316/laws.FnFairs", spec := "fnFairs", unfollowed := true, recurses := true, apart := false }
def FnFairsSaid : Prop := fnFairsRow.holds Try.pinned (OpenSpec.ofChange fnFairsSpec)

/-- ITS FALSE NEIGHBOUR: 'it returns false'. Refute it at one input. -/
def fnFairsWrong : ChangeSpec := { name := "fnFairs", fn := fun _ => fun
  | [d] => { results := [.lit (.bool false)], args := [d] }
  | _ => none }
def FnFairsWrongFalsely : Prop := fnFairsRow.holds Try.pinned (OpenSpec.ofChange fnFairsWrong)

/-- 'laws.FnExactChosen': WHATEVER THE INPUT: true; the input reads as it did. -/
def fnExactChosenSpec : ChangeSpec := { name := "fnExactChosen", fn := fun _ => fun
  | [d] => { results := [.lit (.bool true)], args := [d] }
  | _ => none }
def fnExactChosenRow : OpenClaim := { program := "ytllmkolchgmjoaa", sum := "55637c3dfd1bce74885046210c6c499463954e46a6705de19a945843c2628958", func := "loop.example/g00316/laws.FnExactChosen", spec := "fnExactChosen", unfollowed := true, recurses := true, apart := false }
def FnExactChosenSaid : Prop := fnExactChosenRow.holds Try.pinned (OpenSpec.ofChange fnExactChosenSpec)

/-- ITS FALSE NEIGHBOUR: 'it returns false'. Refute it at one input. -/
def fnExactChosenWrong : ChangeSpec := { name := "fnExactChosen", fn := fun _ => fun
  | [d] => { results := [.lit (.bool false)], args := [d] }
  | _ => none }
def FnExactChosenWrongFalsely : Prop := fnExactChosenRow.holds Try.pinned (OpenSpec.ofChange fnExactChosenWrong)

/-- 'laws.FnExactServed': WHATEVER THE INPUT: true; the input reads as it did. -/
def fnExactServedSpec : ChangeSpec := { name := "fnExactServed", fn := fun _ => fun
  | [d] => { results := [.lit (.bool true)], args := [d] }
  | _ => none }
def fnExactServedRow : OpenClaim := { program := "ytllmkolchgmjoaa", sum := "55637c3dfd1bce74885046210c6c499463954e46a6705de19a945843c2628958", func := "loop.example/g00316/laws.FnExactServed", spec := "fnExactServed", unfollowed := true, recurses := true, apart := false }
def FnExactServedSaid : Prop := fnExactServedRow.holds Try.pinned (OpenSpec.ofChange fnExactServedSpec)

/-- ITS FALSE NEIGHBOUR: 'it returns false'. Refute it at one input. -/
def fnExactServedWrong : ChangeSpec := { name := "fnExactServed", fn := fun _ => fun
  | [d] => { results := [.lit (.bool false)], args := [d] }
  | _ => none }
def FnExactServedWrongFalsely : Prop := fnExactServedRow.holds Try.pinned (OpenSpec.ofChange fnExactServedWrong)

/- THE SECOND FORM. 'bulk': how many values and letters a reading holds, each counted each time it is reached (what is shared counts as often as it is met; a slice's spare places count too). A statement '..UptoSaid' is the law's where the arguments, and the package variables that the reading takes, are together of bulk at most 1048576: NARROWER than '..Said'. Prove '..Said' where nothing that the law and all that it calls make is longer than what came in: it says more and counts as full. Else prove '..UptoSaid'. A law counts once. -/
mutual
def uptoBulk {H : Type} : DataW H → Nat
  | .lit (.string bytes) => bytes.length + 1
  | .lit _ => 1
  | .nil => 1
  | .ptr d => uptoBulk d + 1
  | .slice elems spare => uptoBulkAll elems + uptoBulkAll spare + 1
  | .agg parts => uptoBulkAll parts + 1
  | .iface _ d => uptoBulk d + 1
  | .map entries => uptoBulkEntries entries + 1
  | .held _ => 1
def uptoBulkAll {H : Type} : List (DataW H) → Nat
  | [] => 0
  | d :: r => uptoBulk d + uptoBulkAll r
def uptoBulkEntries {H : Type} : List (Lit × DataW H) → Nat
  | [] => 0
  | x :: r => uptoBulkEntry x + uptoBulkEntries r
def uptoBulkEntry {H : Type} : Lit × DataW H → Nat
  | (.string bytes, d) => bytes.length + uptoBulk d + 1
  | (_, d) => uptoBulk d + 1
 end
def uptoSmall : (H : Type) → List (DataW H) → Bool := fun _ ds => decide (uptoBulkAll ds ≤ 1048576)
def OpenSpec.upto (s : _root_.Go.ChangeSpec) : _root_.Go.OpenSpec := { _root_.Go.OpenSpec.ofChange s with cond := some uptoSmall }

/-- 'laws.FnGoyal', WHERE WHAT IT READS IS OF BULK AT MOST 1048576: true; the input reads as it did. -/
def fnGoyalUptoRow : OpenClaim := { program := "ytllmkolchgmjoaa", sum := "55637c3dfd1bce74885046210c6c499463954e46a6705de19a945843c2628958", func := "loop.example/g00316/laws.FnGoyal", spec := "fnGoyal", unfollowed := true, recurses := true, apart := false, narrowed := true }
def FnGoyalUptoSaid : Prop := fnGoyalUptoRow.holds Try.pinned (OpenSpec.upto fnGoyalSpec)

/-- 'laws.FnFairs', WHERE WHAT IT READS IS OF BULK AT MOST 1048576: true; the input reads as it did. -/
def fnFairsUptoRow : OpenClaim := { program := "ytllmkolchgmjoaa", sum := "55637c3dfd1bce74885046210c6c499463954e46a6705de19a945843c2628958", func := "loop.example/g00316/laws.FnFairs", spec := "fnFairs", unfollowed := true, recurses := true, apart := false, narrowed := true }
def FnFairsUptoSaid : Prop := fnFairsUptoRow.holds Try.pinned (OpenSpec.upto fnFairsSpec)

/-- 'laws.FnExactChosen', WHERE WHAT IT READS IS OF BULK AT MOST 1048576: true; the input reads as it did. -/
def fnExactChosenUptoRow : OpenClaim := { program := "ytllmkolchgmjoaa", sum := "55637c3dfd1bce74885046210c6c499463954e46a6705de19a945843c2628958", func := "loop.example/g00316/laws.FnExactChosen", spec := "fnExactChosen", unfollowed := true, recurses := true, apart := false, narrowed := true }
def FnExactChosenUptoSaid : Prop := fnExactChosenUptoRow.holds Try.pinned (OpenSpec.upto fnExactChosenSpec)

/-- 'laws.FnExactServed', WHERE WHAT IT READS IS OF BULK AT MOST 1048576: true; the input reads as it did. -/
def fnExactServedUptoRow : OpenClaim := { program := "ytllmkolchgmjoaa", sum := "55637c3dfd1bce74885046210c6c499463954e46a6705de19a945843c2628958", func := "loop.example/g00316/laws.FnExactServed", spec := "fnExactServed", unfollowed := true, recurses := true, apart := false, narrowed := true }
def FnExactServedUptoSaid : Prop := fnExactServedUptoRow.holds Try.pinned (OpenSpec.upto fnExactServedSpec)

end Rows
end Go.Proofs.Ytllmkolchgmjoaa

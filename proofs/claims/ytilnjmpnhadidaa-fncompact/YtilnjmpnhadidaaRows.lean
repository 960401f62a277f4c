/-
  No cell of these rows narrows 'for every input' (looked for: loops, veiled, ifaces, maps, wideKeys, modest, calm, conditions, laid).
  DERIVED. THE GIVEN ROWS OF THIS SEAT. 5 by the template 'for every input the law returns true; each argument reads behind the call as it read before'; 0 by the template 'total and deterministic' (their statements: YtilnjmpnhadidaaTotals.lean).
  GIVEN WITH THE SEED: the statements are not yours to turn. If you find one false, say at which input.
  Laid BY PROGRAM, IN A SANDBOX (cutbox-rows.mjs): the forced cells as the released guide's own fill.sh prints them over the translation 9502163f1efe7c91… (all of the seat's roots in one cut). By AI agents, Wed Nov 11 2026. No macro, syntax, notation, axiom, sorry.
-/
import Derived.Test.YtilnjmpnhadidaaChecked
import GoSem.Claim
import GoSem.ClaimJoined
import GoSem.ClaimMapViews
import Derived.JoinedTies
import Derived.KernelRfl
namespace Go.Proofs.Ytilnjmpnhadidaa
/- THE CELL 'sum', in the pinned program and in every row, IS THE sha256 OF THE DUMP (.gsa) THAT YtilnjmpnhadidaaProg.lean LOADS. Nothing in Lean hashes anything: it is a label: what it is worth is what the hold of that sum in a sandbox is worth. -/
noncomputable def Try.pinned : Pinned := { name := "ytilnjmpnhadidaa", sum := "9502163f1efe7c913fcae7eb06c2b10d2cc8b3312084f636fd5944923ff7eeaf", checked := Try.checked }
namespace Rows
def none {H : Type} : Left H := { results := [], args := [] }

/-- 'laws.FnCompact': WHATEVER THE INPUT: true; the input reads as it did. -/
def fnCompactSpec : ChangeSpec := { name := "fnCompact", fn := fun _ => fun
  | [d] => { results := [.lit (.bool true)], args := [d] }
  | _ => none }
def fnCompactRow : OpenClaim := { program := "ytilnjmpnhadidaa", sum := "9502163f1efe7c913fcae7eb06c2b10d2cc8b3312084f636fd5944923ff7eeaf", func := "loop.example/g00316/laws.FnCompact", spec := "fnCompact", inPlace := ["slices.overlaps[loop.example/g00316/impl.Route]"], unfollowed := true, recurses := true, plainKeys := false, apart := false }
def FnCompactSaid : Prop := fnCompactRow.holds Try.pinned (OpenSpec.ofChange fnCompactSpec)

/-- ITS FALSE NEIGHBOUR: 'it returns false'. Refute it at one input. -/
def fnCompactWrong : ChangeSpec := { name := "fnCompact", fn := fun _ => fun
  | [d] => { results := [.lit (.bool false)], args := [d] }
  | _ => none }
def FnCompactWrongFalsely : Prop := fnCompactRow.holds Try.pinned (OpenSpec.ofChange fnCompactWrong)

/-- 'laws.FnExactTrimmed': WHATEVER THE INPUT: true; the input reads as it did. -/
def fnExactTrimmedSpec : ChangeSpec := { name := "fnExactTrimmed", fn := fun _ => fun
  | [d] => { results := [.lit (.bool true)], args := [d] }
  | _ => none }
def fnExactTrimmedRow : OpenClaim := { program := "ytilnjmpnhadidaa", sum := "9502163f1efe7c913fcae7eb06c2b10d2cc8b3312084f636fd5944923ff7eeaf", func := "loop.example/g00316/laws.FnExactTrimmed", spec := "fnExactTrimmed", unfollowed := true, recurses := true, plainKeys := false, apart := false }
def FnExactTrimmedSaid : Prop := fnExactTrimmedRow.holds Try.pinned (OpenSpec.ofChange fnExactTrimmedSpec)

/-- ITS FALSE NEIGHBOUR: 'it returns false'. Refute it at one input. -/
def fnExactTrimmedWrong : ChangeSpec := { name := "fnExactTrimmed", fn := fun _ => fun
  | [d] => { results := [.lit (.bool false)], args := [d] }
  | _ => none }
def FnExactTrimmedWrongFalsely : Prop := fnExactTrimmedRow.holds Try.pinned (OpenSpec.ofChange fnExactTrimmedWrong)

/-- 'laws.FnExactPaired': WHATEVER THE INPUT: true; the input reads as it did. -/
def fnExactPairedSpec : ChangeSpec := { name := "fnExactPaired", fn := fun _ => fun
  | [d] => { results := [.lit (.bool true)], args := [d] }
  | _ => none }
def fnExactPairedRow : OpenClaim := { program := "ytilnjmpnhadidaa", sum := "9502163f1efe7c913fcae7eb06c2b10d2cc8b3312084f636fd5944923ff7eeaf", func := "loop.example/g00316/laws.FnExactPaired", spec := "fnExactPaired", inPlace := ["slices.overlaps[loop.example/g00316/impl.Route]"], unfollowed := true, recurses := true, plainKeys := false, apart := false }
def FnExactPairedSaid : Prop := fnExactPairedRow.holds Try.pinned (OpenSpec.ofChange fnExactPairedSpec)

/-- ITS FALSE NEIGHBOUR: 'it returns false'. Refute it at one input. -/
def fnExactPairedWrong : ChangeSpec := { name := "fnExactPaired", fn := fun _ => fun
  | [d] => { results := [.lit (.bool false)], args := [d] }
  | _ => none }
def FnExactPairedWrongFalsely : Prop := fnExactPairedRow.holds Try.pinned (OpenSpec.ofChange fnExactPairedWrong)

/-- 'laws.FnExactCompact': WHATEVER THE INPUT: true; the input reads as it did. -/
def fnExactCompactSpec : ChangeSpec := { name := "fnExactCompact", fn := fun _ => fun
  | [d] => { results := [.lit (.bool true)], args := [d] }
  | _ => none }
def fnExactCompactRow : OpenClaim := { program := "ytilnjmpnhadidaa", sum := "9502163f1efe7c913fcae7eb06c2b10d2cc8b3312084f636fd5944923ff7eeaf", func := "loop.example/g00316/laws.FnExactCompact", spec := "fnExactCompact", inPlace := ["slices.overlaps[loop.example/g00316/impl.Route]"], unfollowed := true, recurses := true, plainKeys := false, apart := false }
def FnExactCompactSaid : Prop := fnExactCompactRow.holds Try.pinned (OpenSpec.ofChange fnExactCompactSpec)

/-- ITS FALSE NEIGHBOUR: 'it returns false'. Refute it at one input. -/
def fnExactCompactWrong : ChangeSpec := { name := "fnExactCompact", fn := fun _ => fun
  | [d] => { results := [.lit (.bool false)], args := [d] }
  | _ => none }
def FnExactCompactWrongFalsely : Prop := fnExactCompactRow.holds Try.pinned (OpenSpec.ofChange fnExactCompactWrong)

/-- 'laws.FnExactAlike': WHATEVER THE INPUT: true; the input reads as it did. -/
def fnExactAlikeSpec : ChangeSpec := { name := "fnExactAlike", fn := fun _ => fun
  | [d1, d2] => { results := [.lit (.bool true)], args := [d1, d2] }
  | _ => none }
def fnExactAlikeRow : OpenClaim := { program := "ytilnjmpnhadidaa", sum := "9502163f1efe7c913fcae7eb06c2b10d2cc8b3312084f636fd5944923ff7eeaf", func := "loop.example/g00316/laws.FnExactAlike", spec := "fnExactAlike", unfollowed := true, recurses := true, plainKeys := false, apart := false }
def FnExactAlikeSaid : Prop := fnExactAlikeRow.holds Try.pinned (OpenSpec.ofChange fnExactAlikeSpec)

/-- ITS FALSE NEIGHBOUR: 'it returns false'. Refute it at one input. -/
def fnExactAlikeWrong : ChangeSpec := { name := "fnExactAlike", fn := fun _ => fun
  | [d1, d2] => { results := [.lit (.bool false)], args := [d1, d2] }
  | _ => none }
def FnExactAlikeWrongFalsely : Prop := fnExactAlikeRow.holds Try.pinned (OpenSpec.ofChange fnExactAlikeWrong)

/- THE SECOND FORM. 'bulk': how many values and letters a reading holds, each counted each time it is reached (what is shared counts as often as it is met; a slice's spare places count too). A statement '..UptoSaid' is the law's where the arguments, and the package variables that the reading takes, are together of bulk at most 1048576: NARROWER than '..Said'. Prove '..Said' where nothing that the law and all that it calls make is longer than what came in: it says more and counts as full. Else prove '..UptoSaid'. A law counts once. -/
mutual
def uptoBulk {H : Type} : DataW H → Nat
  | .lit (.string bytes) => bytes.length + 1
  | .lit _ => 1
  | .nil => 1
  | .ptr d => uptoBulk d + 1
  | .slice elems spare => uptoBulkAll elems + uptoBulkAll spare + 1
  | .agg parts => uptoBulkAll parts + 1
  | .iface _ d => uptoBulk d + 1
  | .map entries => uptoBulkEntries entries + 1
  | .held _ => 1
def uptoBulkAll {H : Type} : List (DataW H) → Nat
  | [] => 0
  | d :: r => uptoBulk d + uptoBulkAll r
def uptoBulkEntries {H : Type} : List (Lit × DataW H) → Nat
  | [] => 0
  | x :: r => uptoBulkEntry x + uptoBulkEntries r
def uptoBulkEntry {H : Type} : Lit × DataW H → Nat
  | (.string bytes, d) => bytes.length + uptoBulk d + 1
  | (_, d) => uptoBulk d + 1
 end
def uptoSmall : (H : Type) → List (DataW H) → Bool := fun _ ds => decide (uptoBulkAll ds ≤ 1048576)
def OpenSpec.upto (s : _root_.Go.ChangeSpec) : _root_.Go.OpenSpec := { _root_.Go.OpenSpec.ofChange s with cond := some uptoSmall }

/-- 'laws.FnCompact', WHERE WHAT IT READS IS OF BULK AT MOST 1048576: true; the input reads as it did. -/
def fnCompactUptoRow : OpenClaim := { program := "ytilnjmpnhadidaa", sum := "9502163f1efe7c913fcae7eb06c2b10d2cc8b3312084f636fd5944923ff7eeaf", func := "loop.example/g00316/laws.FnCompact", spec := "fnCompact", inPlace := ["slices.overlaps[loop.example/g00316/impl.Route]"], unfollowed := true, recurses := true, plainKeys := false, apart := false, narrowed := true }
def FnCompactUptoSaid : Prop := fnCompactUptoRow.holds Try.pinned (OpenSpec.upto fnCompactSpec)

/-- 'laws.FnExactTrimmed', WHERE WHAT IT READS IS OF BULK AT MOST 1048576: true; the input reads as it did. -/
def fnExactTrimmedUptoRow : OpenClaim := { program := "ytilnjmpnhadidaa", sum := "9502163f1efe7c913fcae7eb06c2b10d2cc8b3312084f636fd5944923ff7eeaf", func := "loop.example/g00316/laws.FnExactTrimmed", spec := "fnExactTrimmed", unfollowed := true, recurses := true, plainKeys := false, apart := false, narrowed := true }
def FnExactTrimmedUptoSaid : Prop := fnExactTrimmedUptoRow.holds Try.pinned (OpenSpec.upto fnExactTrimmedSpec)

/-- 'laws.FnExactPaired', WHERE WHAT IT READS IS OF BULK AT MOST 1048576: true; the input reads as it did. -/
def fnExactPairedUptoRow : OpenClaim := { program := "ytilnjmpnhadidaa", sum := "9502163f1efe7c913fcae7eb06c2b10d2cc8b3312084f636fd5944923ff7eeaf", func := "loop.example/g00316/laws.FnExactPaired", spec := "fnExactPaired", inPlace := ["slices.overlaps[loop.example/g00316/impl.Route]"], unfollowed := true, recurses := true, plainKeys := false, apart := false, narrowed := true }
def FnExactPairedUptoSaid : Prop := fnExactPairedUptoRow.holds Try.pinned (OpenSpec.upto fnExactPairedSpec)

/-- 'laws.FnExactCompact', WHERE WHAT IT READS IS OF BULK AT MOST 1048576: true; the input reads as it did. -/
def fnExactCompactUptoRow : OpenClaim := { program := "ytilnjmpnhadidaa", sum := "9502163f1efe7c913fcae7eb06c2b10d2cc8b3312084f636fd5944923ff7eeaf", func := "loop.example/g00316/laws.FnExactCompact", spec := "fnExactCompact", inPlace := ["slices.overlaps[loop.example/g00316/impl.Route]"], unfollowed := true, recurses := true, plainKeys := false, apart := false, narrowed := true }
def FnExactCompactUptoSaid : Prop := fnExactCompactUptoRow.holds Try.pinned (OpenSpec.upto fnExactCompactSpec)

/-- 'laws.FnExactAlike', WHERE WHAT IT READS IS OF BULK AT MOST 1048576: true; the input reads as it did. -/
def fnExactAlikeUptoRow : OpenClaim := { program := "ytilnjmpnhadidaa", sum := "9502163f1efe7c913fcae7eb06c2b10d2cc8b3312084f636fd5944923ff7eeaf", func := "loop.example/g00316/laws.FnExactAlike", spec := "fnExactAlike", unfollowed := true, recurses := true, plainKeys := false, apart := false, narrowed := true }
def FnExactAlikeUptoSaid : Prop := fnExactAlikeUptoRow.holds Try.pinned (OpenSpec.upto fnExactAlikeSpec)

end Rows
end Go.Proofs.Ytilnjmpnhadidaa

/-
  No cell of these rows narrows 'for every input' (looked for: loops, veiled, ifaces, maps, wideKeys, modest, calm, conditions, laid).
  DERIVED. THE GIVEN ROWS OF THIS SEAT. 6 by the template 'for every input the law returns true; each argument reads behind the call as it read before'; 0 by the template 'total and deterministic' (their statements: YtdnghdepiiimmaaTotals.lean).
  GIVEN WITH THE SEED: the statements are not yours to turn. If you find one false, say at which input.
  Laid BY PROGRAM, IN A SANDBOX (cutbox-rows.mjs): the forced cells as the released guide's own fill.sh prints them over the translation b233d2774cf70fa8… (all of the seat's roots in one cut). By AI agents, Wed Nov 11 2026. No macro, syntax, notation, axiom, sorry.
-/
import Derived.Test.YtdnghdepiiimmaaChecked
import GoSem.Claim
import GoSem.ClaimJoined
import GoSem.ClaimMapViews
import Derived.JoinedTies
import Derived.KernelRfl
namespace Go.Proofs.Ytdnghdepiiimmaa
/- THE CELL 'sum', in the pinned program and in every row, IS THE sha256 OF THE DUMP (.gsa) THAT YtdnghdepiiimmaaProg.lean LOADS. Nothing in Lean hashes anything: it is a label: what it is worth is what the hold of that sum in a sandbox is worth. -/
noncomputable def Try.pinned : Pinned := { name := "ytdnghdepiiimmaa", sum := "b233d2774cf70fa8dddcc3fef316a3d8f5eb5c1cbafdb01b9c8103bf085f4ecd", checked := Try.checked }
namespace Rows
def none {H : Type} : Left H := { results := [], args := [] }

/-- 'laws.FnExactTreeOk': WHATEVER THE INPUT: true; the input reads as it did. -/
def fnExactTreeOkSpec : ChangeSpec := { name := "fnExactTreeOk", fn := fun _ => fun
  | [d] => { results := [.lit (.bool true)], args := [d] }
  | _ => none }
def fnExactTreeOkRow : OpenClaim := { program := "ytdnghdepiiimmaa", sum := "b233d2774cf70fa8dddcc3fef316a3d8f5eb5c1cbafdb01b9c8103bf085f4ecd", func := "loop.example/g00316/laws.FnExactTreeOk", spec := "fnExactTreeOk", apart := false }
def FnExactTreeOkSaid : Prop := fnExactTreeOkRow.holds Try.pinned (OpenSpec.ofChange fnExactTreeOkSpec)

/-- ITS FALSE NEIGHBOUR: 'it returns false'. Refute it at one input. -/
def fnExactTreeOkWrong : ChangeSpec := { name := "fnExactTreeOk", fn := fun _ => fun
  | [d] => { results := [.lit (.bool false)], args := [d] }
  | _ => none }
def FnExactTreeOkWrongFalsely : Prop := fnExactTreeOkRow.holds Try.pinned (OpenSpec.ofChange fnExactTreeOkWrong)

/-- 'laws.FnExactPathOf': WHATEVER THE INPUT: true; the input reads as it did. -/
def fnExactPathOfSpec : ChangeSpec := { name := "fnExactPathOf", fn := fun _ => fun
  | [d1, d2] => { results := [.lit (.bool true)], args := [d1, d2] }
  | _ => none }
def fnExactPathOfRow : OpenClaim := { program := "ytdnghdepiiimmaa", sum := "b233d2774cf70fa8dddcc3fef316a3d8f5eb5c1cbafdb01b9c8103bf085f4ecd", func := "loop.example/g00316/laws.FnExactPathOf", spec := "fnExactPathOf", recurses := true, apart := false }
def FnExactPathOfSaid : Prop := fnExactPathOfRow.holds Try.pinned (OpenSpec.ofChange fnExactPathOfSpec)

/-- ITS FALSE NEIGHBOUR: 'it returns false'. Refute it at one input. -/
def fnExactPathOfWrong : ChangeSpec := { name := "fnExactPathOf", fn := fun _ => fun
  | [d1, d2] => { results := [.lit (.bool false)], args := [d1, d2] }
  | _ => none }
def FnExactPathOfWrongFalsely : Prop := fnExactPathOfRow.holds Try.pinned (OpenSpec.ofChange fnExactPathOfWrong)

/-- 'laws.FnExactTreeFilled': WHATEVER THE INPUT: true; the input reads as it did. -/
def fnExactTreeFilledSpec : ChangeSpec := { name := "fnExactTreeFilled", fn := fun _ => fun
  | [d1, d2] => { results := [.lit (.bool true)], args := [d1, d2] }
  | _ => none }
def fnExactTreeFilledRow : OpenClaim := { program := "ytdnghdepiiimmaa", sum := "b233d2774cf70fa8dddcc3fef316a3d8f5eb5c1cbafdb01b9c8103bf085f4ecd", func := "loop.example/g00316/laws.FnExactTreeFilled", spec := "fnExactTreeFilled", apart := false }
def FnExactTreeFilledSaid : Prop := fnExactTreeFilledRow.holds Try.pinned (OpenSpec.ofChange fnExactTreeFilledSpec)

/-- ITS FALSE NEIGHBOUR: 'it returns false'. Refute it at one input. -/
def fnExactTreeFilledWrong : ChangeSpec := { name := "fnExactTreeFilled", fn := fun _ => fun
  | [d1, d2] => { results := [.lit (.bool false)], args := [d1, d2] }
  | _ => none }
def FnExactTreeFilledWrongFalsely : Prop := fnExactTreeFilledRow.holds Try.pinned (OpenSpec.ofChange fnExactTreeFilledWrong)

/-- 'laws.FnExactCan': WHATEVER THE INPUT: true; the input reads as it did. -/
def fnExactCanSpec : ChangeSpec := { name := "fnExactCan", fn := fun _ => fun
  | [d1, d2, d3] => { results := [.lit (.bool true)], args := [d1, d2, d3] }
  | _ => none }
def fnExactCanRow : OpenClaim := { program := "ytdnghdepiiimmaa", sum := "b233d2774cf70fa8dddcc3fef316a3d8f5eb5c1cbafdb01b9c8103bf085f4ecd", func := "loop.example/g00316/laws.FnExactCan", spec := "fnExactCan", unfollowed := true, recurses := true, apart := false }
def FnExactCanSaid : Prop := fnExactCanRow.holds Try.pinned (OpenSpec.ofChange fnExactCanSpec)

/-- ITS FALSE NEIGHBOUR: 'it returns false'. Refute it at one input. -/
def fnExactCanWrong : ChangeSpec := { name := "fnExactCan", fn := fun _ => fun
  | [d1, d2, d3] => { results := [.lit (.bool false)], args := [d1, d2, d3] }
  | _ => none }
def FnExactCanWrongFalsely : Prop := fnExactCanRow.holds Try.pinned (OpenSpec.ofChange fnExactCanWrong)

/-- 'laws.FnExactPaid': WHATEVER THE INPUT: true; the input reads as it did. -/
def fnExactPaidSpec : ChangeSpec := { name := "fnExactPaid", fn := fun _ => fun
  | [d1, d2, d3] => { results := [.lit (.bool true)], args := [d1, d2, d3] }
  | _ => none }
def fnExactPaidRow : OpenClaim := { program := "ytdnghdepiiimmaa", sum := "b233d2774cf70fa8dddcc3fef316a3d8f5eb5c1cbafdb01b9c8103bf085f4ecd", func := "loop.example/g00316/laws.FnExactPaid", spec := "fnExactPaid", unfollowed := true, recurses := true, apart := false }
def FnExactPaidSaid : Prop := fnExactPaidRow.holds Try.pinned (OpenSpec.ofChange fnExactPaidSpec)

/-- ITS FALSE NEIGHBOUR: 'it returns false'. Refute it at one input. -/
def fnExactPaidWrong : ChangeSpec := { name := "fnExactPaid", fn := fun _ => fun
  | [d1, d2, d3] => { results := [.lit (.bool false)], args := [d1, d2, d3] }
  | _ => none }
def FnExactPaidWrongFalsely : Prop := fnExactPaidRow.holds Try.pinned (OpenSpec.ofChange fnExactPaidWrong)

/-- 'laws.FnExactWhenCan': WHATEVER THE INPUT: true; the input reads as it did. -/
def fnExactWhenCanSpec : ChangeSpec := { name := "fnExactWhenCan", fn := fun _ => fun
  | [d1, d2, d3] => { results := [.lit (.bool true)], args := [d1, d2, d3] }
  | _ => none }
def fnExactWhenCanRow : OpenClaim := { program := "ytdnghdepiiimmaa", sum := "b233d2774cf70fa8dddcc3fef316a3d8f5eb5c1cbafdb01b9c8103bf085f4ecd", func := "loop.example/g00316/laws.FnExactWhenCan", spec := "fnExactWhenCan", recurses := true, apart := false }
def FnExactWhenCanSaid : Prop := fnExactWhenCanRow.holds Try.pinned (OpenSpec.ofChange fnExactWhenCanSpec)

/-- ITS FALSE NEIGHBOUR: 'it returns false'. Refute it at one input. -/
def fnExactWhenCanWrong : ChangeSpec := { name := "fnExactWhenCan", fn := fun _ => fun
  | [d1, d2, d3] => { results := [.lit (.bool false)], args := [d1, d2, d3] }
  | _ => none }
def FnExactWhenCanWrongFalsely : Prop := fnExactWhenCanRow.holds Try.pinned (OpenSpec.ofChange fnExactWhenCanWrong)

/- THE SECOND FORM. 'bulk': how many values and letters a reading holds, each counted each time it is reached (what is shared counts as often as it is met; a slice's spare places count too). A statement '..UptoSaid' is the law's where the arguments, and the package variables that the reading takes, are together of bulk at most 1048576: NARROWER than '..Said'. Prove '..Said' where nothing that the law and all that it calls make is longer than what came in: it says more and counts as full. Else prove '..UptoSaid'. A law counts once. -/
mutual
def uptoBulk {H : Type} : DataW H → Nat
  | .lit (.string bytes) => bytes.length + 1
  | .lit _ => 1
  | .nil => 1
  | .ptr d => uptoBulk d + 1
  | .slice elems spare => uptoBulkAll elems + uptoBulkAll spare + 1
  | .agg parts => uptoBulkAll parts + 1
  | .iface _ d => uptoBulk d + 1
  | .map entries => uptoBulkEntries entries + 1
  | .held _ => 1
def uptoBulkAll {H : Type} : List (DataW H) → Nat
  | [] => 0
  | d :: r => uptoBulk d + uptoBulkAll r
def uptoBulkEntries {H : Type} : List (Lit × DataW H) → Nat
  | [] => 0
  | x :: r => uptoBulkEntry x + uptoBulkEntries r
def uptoBulkEntry {H : Type} : Lit × DataW H → Nat
  | (.string bytes, d) => bytes.length + uptoBulk d + 1
  | (_, d) => uptoBulk d + 1
 end
def uptoSmall : (H : Type) → List (DataW H) → Bool := fun _ ds => decide (uptoBulkAll ds ≤ 1048576)
def OpenSpec.upto (s : _root_.Go.ChangeSpec) : _root_.Go.OpenSpec := { _root_.Go.OpenSpec.ofChange s with cond := some uptoSmall }

/-- 'laws.FnExactTreeOk', WHERE WHAT IT READS IS OF BULK AT MOST 1048576: true; the input reads as it did. -/
def fnExactTreeOkUptoRow : OpenClaim := { program := "ytdnghdepiiimmaa", sum := "b233d2774cf70fa8dddcc3fef316a3d8f5eb5c1cbafdb01b9c8103bf085f4ecd", func := "loop.example/g00316/laws.FnExactTreeOk", spec := "fnExactTreeOk", apart := false, narrowed := true }
def FnExactTreeOkUptoSaid : Prop := fnExactTreeOkUptoRow.holds Try.pinned (OpenSpec.upto fnExactTreeOkSpec)

/-- 'laws.FnExactPathOf', WHERE WHAT IT READS IS OF BULK AT MOST 1048576: true; the input reads as it did. -/
def fnExactPathOfUptoRow : OpenClaim := { program := "ytdnghdepiiimmaa", sum := "b233d2774cf70fa8dddcc3fef316a3d8f5eb5c1cbafdb01b9c8103bf085f4ecd", func := "loop.example/g00316/laws.FnExactPathOf", spec := "fnExactPathOf", recurses := true, apart := false, narrowed := true }
def FnExactPathOfUptoSaid : Prop := fnExactPathOfUptoRow.holds Try.pinned (OpenSpec.upto fnExactPathOfSpec)

/-- 'laws.FnExactTreeFilled', WHERE WHAT IT READS IS OF BULK AT MOST 1048576: true; the input reads as it did. -/
def fnExactTreeFilledUptoRow : OpenClaim := { program := "ytdnghdepiiimmaa", sum := "b233d2774cf70fa8dddcc3fef316a3d8f5eb5c1cbafdb01b9c8103bf085f4ecd", func := "loop.example/g00316/laws.FnExactTreeFilled", spec := "fnExactTreeFilled", apart := false, narrowed := true }
def FnExactTreeFilledUptoSaid : Prop := fnExactTreeFilledUptoRow.holds Try.pinned (OpenSpec.upto fnExactTreeFilledSpec)

/-- 'laws.FnExactCan', WHERE WHAT IT READS IS OF BULK AT MOST 1048576: true; the input reads as it did. -/
def fnExactCanUptoRow : OpenClaim := { program := "ytdnghdepiiimmaa", sum := "b233d2774cf70fa8dddcc3fef316a3d8f5eb5c1cbafdb01b9c8103bf085f4ecd", func := "loop.example/g00316/laws.FnExactCan", spec := "fnExactCan", unfollowed := true, recurses := true, apart := false, narrowed := true }
def FnExactCanUptoSaid : Prop := fnExactCanUptoRow.holds Try.pinned (OpenSpec.upto fnExactCanSpec)

/-- 'laws.FnExactPaid', WHERE WHAT IT READS IS OF BULK AT MOST 1048576: true; the input reads as it did. -/
def fnExactPaidUptoRow : OpenClaim := { program := "ytdnghdepiiimmaa", sum := "b233d2774cf70fa8dddcc3fef316a3d8f5eb5c1cbafdb01b9c8103bf085f4ecd", func := "loop.example/g00316/laws.FnExactPaid", spec := "fnExactPaid", unfollowed := true, recurses := true, apart := false, narrowed := true }
def FnExactPaidUptoSaid : Prop := fnExactPaidUptoRow.holds Try.pinned (OpenSpec.upto fnExactPaidSpec)

/-- 'laws.FnExactWhenCan', WHERE WHAT IT READS IS OF BULK AT MOST 1048576: true; the input reads as it did. -/
def fnExactWhenCanUptoRow : OpenClaim := { program := "ytdnghdepiiimmaa", sum := "b233d2774cf70fa8dddcc3fef316a3d8f5eb5c1cbafdb01b9c8103bf085f4ecd", func := "loop.example/g00316/laws.FnExactWhenCan", spec := "fnExactWhenCan", recurses := true, apart := false, narrowed := true }
def FnExactWhenCanUptoSaid : Prop := fnExactWhenCanUptoRow.holds Try.pinned (OpenSpec.upto fnExactWhenCanSpec)

end Rows
end Go.Proofs.Ytdnghdepiiimmaa

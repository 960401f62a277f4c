/-
  No cell of these rows narrows 'for every input' (looked for: loops, veiled, ifaces, maps, wideKeys, modest, calm, conditions, laid).
  DERIVED. THE GIVEN ROWS OF THIS SEAT. 6 by the template 'for every input the law returns true; each argument reads behind the call as it read before'; 0 by the template 'total and deterministic' (their statements: YteegbmgkjmpkhaaTotals.lean).
  GIVEN WITH THE SEED: the statements are not yours to turn. If you find one false, say at which input.
  Laid BY PROGRAM, IN A SANDBOX (cutbox-rows.mjs): the forced cells as the released guide's own fill.sh prints them over the translation 7c6d662c893f53b6… (all of the seat's roots in one cut). By AI agents, Wed Nov 11 2026. No macro, syntax, notation, axiom, sorry.
-/
import Derived.Test.YteegbmgkjmpkhaaChecked
import GoSem.Claim
import GoSem.ClaimJoined
import GoSem.ClaimMapViews
import Derived.JoinedTies
import Derived.KernelRfl
namespace Go.Proofs.Yteegbmgkjmpkhaa
/- THE CELL 'sum', in the pinned program and in every row, IS THE sha256 OF THE DUMP (.gsa) THAT YteegbmgkjmpkhaaProg.lean LOADS. Nothing in Lean hashes anything: it is a label: what it is worth is what the hold of that sum in a sandbox is worth. -/
noncomputable def Try.pinned : Pinned := { name := "yteegbmgkjmpkhaa", sum := "7c6d662c893f53b6e9a83672abed9440052559b6b75e3d162d44b4c646a564f0", checked := Try.checked }
namespace Rows
def none {H : Type} : Left H := { results := [], args := [] }

/-- 'laws.FnSums': WHATEVER THE INPUT: true; the input reads as it did. -/
def fnSumsSpec : ChangeSpec := { name := "fnSums", fn := fun _ => fun
  | [d] => { results := [.lit (.bool true)], args := [d] }
  | _ => none }
def fnSumsRow : OpenClaim := { program := "yteegbmgkjmpkhaa", sum := "7c6d662c893f53b6e9a83672abed9440052559b6b75e3d162d44b4c646a564f0", func := "loop.example/g00316/laws.FnSums", spec := "fnSums", unfollowed := true, recurses := true, apart := false }
def FnSumsSaid : Prop := fnSumsRow.holds Try.pinned (OpenSpec.ofChange fnSumsSpec)

/-- ITS FALSE NEIGHBOUR: 'it returns false'. Refute it at one input. -/
def fnSumsWrong : ChangeSpec := { name := "fnSums", fn := fun _ => fun
  | [d] => { results := [.lit (.bool false)], args := [d] }
  | _ => none }
def FnSumsWrongFalsely : Prop := fnSumsRow.holds Try.pinned (OpenSpec.ofChange fnSumsWrong)

/-- 'laws.FnExactSum16': WHATEVER THE INPUT: true; the input reads as it did. -/
def fnExactSum16Spec : ChangeSpec := { name := "fnExactSum16", fn := fun _ => fun
  | [d] => { results := [.lit (.bool true)], args := [d] }
  | _ => none }
def fnExactSum16Row : OpenClaim := { program := "yteegbmgkjmpkhaa", sum := "7c6d662c893f53b6e9a83672abed9440052559b6b75e3d162d44b4c646a564f0", func := "loop.example/g00316/laws.FnExactSum16", spec := "fnExactSum16", unfollowed := true, recurses := true, apart := false }
def FnExactSum16Said : Prop := fnExactSum16Row.holds Try.pinned (OpenSpec.ofChange fnExactSum16Spec)

/-- ITS FALSE NEIGHBOUR: 'it returns false'. Refute it at one input. -/
def fnExactSum16Wrong : ChangeSpec := { name := "fnExactSum16", fn := fun _ => fun
  | [d] => { results := [.lit (.bool false)], args := [d] }
  | _ => none }
def FnExactSum16WrongFalsely : Prop := fnExactSum16Row.holds Try.pinned (OpenSpec.ofChange fnExactSum16Wrong)

/-- 'laws.FnExactFold': WHATEVER THE INPUT: true; the input reads as it did. -/
def fnExactFoldSpec : ChangeSpec := { name := "fnExactFold", fn := fun _ => fun
  | [d1, d2] => { results := [.lit (.bool true)], args := [d1, d2] }
  | _ => none }
def fnExactFoldRow : OpenClaim := { program := "yteegbmgkjmpkhaa", sum := "7c6d662c893f53b6e9a83672abed9440052559b6b75e3d162d44b4c646a564f0", func := "loop.example/g00316/laws.FnExactFold", spec := "fnExactFold", apart := false }
def FnExactFoldSaid : Prop := fnExactFoldRow.holds Try.pinned (OpenSpec.ofChange fnExactFoldSpec)

/-- ITS FALSE NEIGHBOUR: 'it returns false'. Refute it at one input. -/
def fnExactFoldWrong : ChangeSpec := { name := "fnExactFold", fn := fun _ => fun
  | [d1, d2] => { results := [.lit (.bool false)], args := [d1, d2] }
  | _ => none }
def FnExactFoldWrongFalsely : Prop := fnExactFoldRow.holds Try.pinned (OpenSpec.ofChange fnExactFoldWrong)

/-- 'laws.FnExactRenewed': WHATEVER THE INPUT: true; the input reads as it did. -/
def fnExactRenewedSpec : ChangeSpec := { name := "fnExactRenewed", fn := fun _ => fun
  | [d1, d2, d3] => { results := [.lit (.bool true)], args := [d1, d2, d3] }
  | _ => none }
def fnExactRenewedRow : OpenClaim := { program := "yteegbmgkjmpkhaa", sum := "7c6d662c893f53b6e9a83672abed9440052559b6b75e3d162d44b4c646a564f0", func := "loop.example/g00316/laws.FnExactRenewed", spec := "fnExactRenewed", apart := false }
def FnExactRenewedSaid : Prop := fnExactRenewedRow.holds Try.pinned (OpenSpec.ofChange fnExactRenewedSpec)

/-- ITS FALSE NEIGHBOUR: 'it returns false'. Refute it at one input. -/
def fnExactRenewedWrong : ChangeSpec := { name := "fnExactRenewed", fn := fun _ => fun
  | [d1, d2, d3] => { results := [.lit (.bool false)], args := [d1, d2, d3] }
  | _ => none }
def FnExactRenewedWrongFalsely : Prop := fnExactRenewedRow.holds Try.pinned (OpenSpec.ofChange fnExactRenewedWrong)

/-- 'laws.FnExactSumOf': WHATEVER THE INPUT: true; the input reads as it did. -/
def fnExactSumOfSpec : ChangeSpec := { name := "fnExactSumOf", fn := fun _ => fun
  | [d] => { results := [.lit (.bool true)], args := [d] }
  | _ => none }
def fnExactSumOfRow : OpenClaim := { program := "yteegbmgkjmpkhaa", sum := "7c6d662c893f53b6e9a83672abed9440052559b6b75e3d162d44b4c646a564f0", func := "loop.example/g00316/laws.FnExactSumOf", spec := "fnExactSumOf", unfollowed := true, recurses := true, apart := false }
def FnExactSumOfSaid : Prop := fnExactSumOfRow.holds Try.pinned (OpenSpec.ofChange fnExactSumOfSpec)

/-- ITS FALSE NEIGHBOUR: 'it returns false'. Refute it at one input. -/
def fnExactSumOfWrong : ChangeSpec := { name := "fnExactSumOf", fn := fun _ => fun
  | [d] => { results := [.lit (.bool false)], args := [d] }
  | _ => none }
def FnExactSumOfWrongFalsely : Prop := fnExactSumOfRow.holds Try.pinned (OpenSpec.ofChange fnExactSumOfWrong)

/-- 'laws.FnExactMarked': WHATEVER THE INPUT: true; the input reads as it did. -/
def fnExactMarkedSpec : ChangeSpec := { name := "fnExactMarked", fn := fun _ => fun
  | [d1, d2] => { results := [.lit (.bool true)], args := [d1, d2] }
  | _ => none }
def fnExactMarkedRow : OpenClaim := { program := "yteegbmgkjmpkhaa", sum := "7c6d662c893f53b6e9a83672abed9440052559b6b75e3d162d44b4c646a564f0", func := "loop.example/g00316/laws.FnExactMarked", spec := "fnExactMarked", unfollowed := true, recurses := true, apart := false }
def FnExactMarkedSaid : Prop := fnExactMarkedRow.holds Try.pinned (OpenSpec.ofChange fnExactMarkedSpec)

/-- ITS FALSE NEIGHBOUR: 'it returns false'. Refute it at one input. -/
def fnExactMarkedWrong : ChangeSpec := { name := "fnExactMarked", fn := fun _ => fun
  | [d1, d2] => { results := [.lit (.bool false)], args := [d1, d2] }
  | _ => none }
def FnExactMarkedWrongFalsely : Prop := fnExactMarkedRow.holds Try.pinned (OpenSpec.ofChange fnExactMarkedWrong)

/- THE SECOND FORM. 'bulk': how many values and letters a reading holds, each counted each time it is reached (what is shared counts as often as it is met; a slice's spare places count too). A statement '..UptoSaid' is the law's where the arguments, and the package variables that the reading takes, are together of bulk at most 1048576: NARROWER than '..Said'. Prove '..Said' where nothing that the law and all that it calls make is longer than what came in: it says more and counts as full. Else prove '..UptoSaid'. A law counts once. -/
mutual
def uptoBulk {H : Type} : DataW H → Nat
  | .lit (.string bytes) => bytes.length + 1
  | .lit _ => 1
  | .nil => 1
  | .ptr d => uptoBulk d + 1
  | .slice elems spare => uptoBulkAll elems + uptoBulkAll spare + 1
  | .agg parts => uptoBulkAll parts + 1
  | .iface _ d => uptoBulk d + 1
  | .map entries => uptoBulkEntries entries + 1
  | .held _ => 1
def uptoBulkAll {H : Type} : List (DataW H) → Nat
  | [] => 0
  | d :: r => uptoBulk d + uptoBulkAll r
def uptoBulkEntries {H : Type} : List (Lit × DataW H) → Nat
  | [] => 0
  | x :: r => uptoBulkEntry x + uptoBulkEntries r
def uptoBulkEntry {H : Type} : Lit × DataW H → Nat
  | (.string bytes, d) => bytes.length + uptoBulk d + 1
  | (_, d) => uptoBulk d + 1
 end
def uptoSmall : (H : Type) → List (DataW H) → Bool := fun _ ds => decide (uptoBulkAll ds ≤ 1048576)
def OpenSpec.upto (s : _root_.Go.ChangeSpec) : _root_.Go.OpenSpec := { _root_.Go.OpenSpec.ofChange s with cond := some uptoSmall }

/-- 'laws.FnSums', WHERE WHAT IT READS IS OF BULK AT MOST 1048576: true; the input reads as it did. -/
def fnSumsUptoRow : OpenClaim := { program := "yteegbmgkjmpkhaa", sum := "7c6d662c893f53b6e9a83672abed9440052559b6b75e3d162d44b4c646a564f0", func := "loop.example/g00316/laws.FnSums", spec := "fnSums", unfollowed := true, recurses := true, apart := false, narrowed := true }
def FnSumsUptoSaid : Prop := fnSumsUptoRow.holds Try.pinned (OpenSpec.upto fnSumsSpec)

/-- 'laws.FnExactSum16', WHERE WHAT IT READS IS OF BULK AT MOST 1048576: true; the input reads as it did. -/
def fnExactSum16UptoRow : OpenClaim := { program := "yteegbmgkjmpkhaa", sum := "7c6d662c893f53b6e9a83672abed9440052559b6b75e3d162d44b4c646a564f0", func := "loop.example/g00316/laws.FnExactSum16", spec := "fnExactSum16", unfollowed := true, recurses := true, apart := false, narrowed := true }
def FnExactSum16UptoSaid : Prop := fnExactSum16UptoRow.holds Try.pinned (OpenSpec.upto fnExactSum16Spec)

/-- 'laws.FnExactFold', WHERE WHAT IT READS IS OF BULK AT MOST 1048576: true; the input reads as it did. -/
def fnExactFoldUptoRow : OpenClaim := { program := "yteegbmgkjmpkhaa", sum := "7c6d662c893f53b6e9a83672abed9440052559b6b75e3d162d44b4c646a564f0", func := "loop.example/g00316/laws.FnExactFold", spec := "fnExactFold", apart := false, narrowed := true }
def FnExactFoldUptoSaid : Prop := fnExactFoldUptoRow.holds Try.pinned (OpenSpec.upto fnExactFoldSpec)

/-- 'laws.FnExactRenewed', WHERE WHAT IT READS IS OF BULK AT MOST 1048576: true; the input reads as it did. -/
def fnExactRenewedUptoRow : OpenClaim := { program := "yteegbmgkjmpkhaa", sum := "7c6d662c893f53b6e9a83672abed9440052559b6b75e3d162d44b4c646a564f0", func := "loop.example/g00316/laws.FnExactRenewed", spec := "fnExactRenewed", apart := false, narrowed := true }
def FnExactRenewedUptoSaid : Prop := fnExactRenewedUptoRow.holds Try.pinned (OpenSpec.upto fnExactRenewedSpec)

/-- 'laws.FnExactSumOf', WHERE WHAT IT READS IS OF BULK AT MOST 1048576: true; the input reads as it did. -/
def fnExactSumOfUptoRow : OpenClaim := { program := "yteegbmgkjmpkhaa", sum := "7c6d662c893f53b6e9a83672abed9440052559b6b75e3d162d44b4c646a564f0", func := "loop.example/g00316/laws.FnExactSumOf", spec := "fnExactSumOf", unfollowed := true, recurses := true, apart := false, narrowed := true }
def FnExactSumOfUptoSaid : Prop := fnExactSumOfUptoRow.holds Try.pinned (OpenSpec.upto fnExactSumOfSpec)

/-- 'laws.FnExactMarked', WHERE WHAT IT READS IS OF BULK AT MOST 1048576: true; the input reads as it did. -/
def fnExactMarkedUptoRow : OpenClaim := { program := "yteegbmgkjmpkhaa", sum := "7c6d662c893f53b6e9a83672abed9440052559b6b75e3d162d44b4c646a564f0", func := "loop.example/g00316/laws.FnExactMarked", spec := "fnExactMarked", unfollowed := true, recurses := true, apart := false, narrowed := true }
def FnExactMarkedUptoSaid : Prop := fnExactMarkedUptoRow.holds Try.pinned (OpenSpec.upto fnExactMarkedSpec)

end Rows
end Go.Proofs.Yteegbmgkjmpkhaa

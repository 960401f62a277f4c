/-
  NARROWER THAN 'FOR EVERY INPUT', by the rows' own cells (each row's printed sentence says how): FnExactOut: laid · FnExactIn: ifaces, laid.
  DERIVED. THE GIVEN ROWS OF THIS SEAT. 2 by the template 'for every input the law returns true; each argument reads behind the call as it read before'; 0 by the template 'total and deterministic' (their statements: YtgebghkcikmfaaaGreatDoorTotals.lean).
  GIVEN WITH THE SEED: the statements are not yours to turn. If you find one false, say at which input.
  Laid BY PROGRAM, IN A SANDBOX (cutbox-rows.mjs): the forced cells as the released guide's own fill.sh prints them over the translation f23fd820df89b774… (all of the seat's roots in one cut). By AI agents, Wed Nov 11 2026. No macro, syntax, notation, axiom, sorry.
-/
import Derived.Test.YtgebghkcikmfaaaGreatDoorChecked
import GoSem.Claim
import GoSem.ClaimJoined
import GoSem.ClaimMapViews
import Derived.JoinedTies
import Derived.KernelRfl
namespace Go.Proofs.YtgebghkcikmfaaaGreatDoor
/- THE CELL 'sum', in the pinned program and in every row, IS THE sha256 OF THE DUMP (.gsa) THAT YtgebghkcikmfaaaGreatDoorProg.lean LOADS. Nothing in Lean hashes anything: it is a label: what it is worth is what the hold of that sum in a sandbox is worth. -/
noncomputable def Tryz.pinned : Pinned := { name := "ytgebghkcikmfaaagreatdoor", sum := "f23fd820df89b77465b2bc31a438211768438f6cefa648619dd532b338262989", checked := Tryz.checked }
namespace Rows
def none {H : Type} : Left H := { results := [], args := [] }

/- WHAT THE LISTED PACKAGE-LEVEL VARIABLES READ AS WHEN THE CALL BEGINS. Each datum BY PROGRAM (the guide's laid-datum.mjs) off the statement by which the dump's own 'gosem.cut.vars' lays the variable. In a bare row this is a premise. The card (YtgebghkcikmfaaaGreatDoorCards.lean) ties it to the program's text. -/
def laid_loop_example_g00316_impl_divisors {H : Type} : DataW H := .agg [.agg [.agg [.lit (.bool true), .lit (.bool true), .lit (.bool true), .lit (.bool true)], .lit (.int .i64 2048)], .agg [.agg [.lit (.bool false), .lit (.bool true), .lit (.bool true), .lit (.bool true)], .lit (.int .i64 512)], .agg [.agg [.lit (.bool false), .lit (.bool false), .lit (.bool true), .lit (.bool true)], .lit (.int .i64 128)], .agg [.agg [.lit (.bool false), .lit (.bool false), .lit (.bool false), .lit (.bool true)], .lit (.int .i64 32)]]
def laid_errors_errorType {H : Type} : DataW H := .iface "internal/reflectlite.rtype" (.agg [.ptr (.lit (.string [101, 114, 114, 111, 114]))])
def laid_loop_example_g00316_impl_errShort {H : Type} : DataW H := .iface "*errors.errorString" (.ptr (.agg [.lit (.string [116, 104, 101, 32, 116, 101, 120, 116, 32, 101, 110, 100, 115, 32, 116, 111, 111, 32, 101, 97, 114, 108, 121])]))
def laid_loop_example_g00316_impl_errMore {H : Type} : DataW H := .iface "*errors.errorString" (.ptr (.agg [.lit (.string [116, 104, 101, 114, 101, 32, 97, 114, 101, 32, 98, 121, 116, 101, 115, 32, 98, 101, 104, 105, 110, 100, 32, 116, 104, 101, 32, 98, 111, 100, 121])]))

/-- 'laws.FnExactOut': WHATEVER THE INPUT: true; the input reads as it did. -/
def fnExactOutSpec : ChangeSpec := { name := "fnExactOut", vars := ["loop.example/g00316/impl.divisors"], fn := fun _ => fun
  | [d, g1] => { results := [.lit (.bool true)], args := [d], vars := [g1] }
  | _ => none }
def fnExactOutRow : OpenClaim := { program := "ytgebghkcikmfaaagreatdoor", sum := "f23fd820df89b77465b2bc31a438211768438f6cefa648619dd532b338262989", func := "loop.example/g00316/laws.FnExactOut", spec := "fnExactOut", unfollowed := true, recurses := true, named := ["loop.example/g00316/impl.divisors"], apart := false, laid := [("loop.example/g00316/impl.divisors", laid_loop_example_g00316_impl_divisors)] }
def FnExactOutSaid : Prop := fnExactOutRow.holds Tryz.pinned (OpenSpec.ofChange fnExactOutSpec)

/-- ITS FALSE NEIGHBOUR: 'it returns false'. Refute it at one input. -/
def fnExactOutWrong : ChangeSpec := { name := "fnExactOut", vars := ["loop.example/g00316/impl.divisors"], fn := fun _ => fun
  | [d, g1] => { results := [.lit (.bool false)], args := [d], vars := [g1] }
  | _ => none }
def FnExactOutWrongFalsely : Prop := fnExactOutRow.holds Tryz.pinned (OpenSpec.ofChange fnExactOutWrong)

/-- 'laws.FnExactIn': WHATEVER THE INPUT: true; the input reads as it did. -/
def fnExactInSpec : ChangeSpec := { name := "fnExactIn", vars := ["loop.example/g00316/impl.errMore", "loop.example/g00316/impl.errShort"], fn := fun _ => fun
  | [d1, d2, g1, g2] => { results := [.lit (.bool true)], args := [d1, d2], vars := [g1, g2] }
  | _ => none }
def fnExactInRow : OpenClaim := { program := "ytgebghkcikmfaaagreatdoor", sum := "f23fd820df89b77465b2bc31a438211768438f6cefa648619dd532b338262989", func := "loop.example/g00316/laws.FnExactIn", spec := "fnExactIn", inPlace := ["internal/reflectlite.TypeOf", "internal/reflectlite.ValueOf", "(internal/reflectlite.Value).Type", "(internal/reflectlite.Value).IsNil", "(internal/reflectlite.Value).Elem", "(internal/reflectlite.Value).Set"], unfollowed := true, recurses := true, named := ["loop.example/g00316/impl.errMore", "loop.example/g00316/impl.errShort", "errors.errorType"], ifaces := true, apart := false, laid := [("errors.errorType", laid_errors_errorType), ("loop.example/g00316/impl.errShort", laid_loop_example_g00316_impl_errShort), ("loop.example/g00316/impl.errMore", laid_loop_example_g00316_impl_errMore)] }
def FnExactInSaid : Prop := fnExactInRow.holds Tryz.pinned (OpenSpec.ofChange fnExactInSpec)

/-- ITS FALSE NEIGHBOUR: 'it returns false'. Refute it at one input. -/
def fnExactInWrong : ChangeSpec := { name := "fnExactIn", vars := ["loop.example/g00316/impl.errMore", "loop.example/g00316/impl.errShort"], fn := fun _ => fun
  | [d1, d2, g1, g2] => { results := [.lit (.bool false)], args := [d1, d2], vars := [g1, g2] }
  | _ => none }
def FnExactInWrongFalsely : Prop := fnExactInRow.holds Tryz.pinned (OpenSpec.ofChange fnExactInWrong)

/- THE SECOND FORM. 'bulk': how many values and letters a reading holds, each counted each time it is reached (what is shared counts as often as it is met; a slice's spare places count too). A statement '..UptoSaid' is the law's where the arguments, and the package variables that the reading takes, are together of bulk at most 1048576: NARROWER than '..Said'. Prove '..Said' where nothing that the law and all that it calls make is longer than what came in: it says more and counts as full. Else prove '..UptoSaid'. A law counts once. -/
mutual
def uptoBulk {H : Type} : DataW H → Nat
  | .lit (.string bytes) => bytes.length + 1
  | .lit _ => 1
  | .nil => 1
  | .ptr d => uptoBulk d + 1
  | .slice elems spare => uptoBulkAll elems + uptoBulkAll spare + 1
  | .agg parts => uptoBulkAll parts + 1
  | .iface _ d => uptoBulk d + 1
  | .map entries => uptoBulkEntries entries + 1
  | .held _ => 1
def uptoBulkAll {H : Type} : List (DataW H) → Nat
  | [] => 0
  | d :: r => uptoBulk d + uptoBulkAll r
def uptoBulkEntries {H : Type} : List (Lit × DataW H) → Nat
  | [] => 0
  | x :: r => uptoBulkEntry x + uptoBulkEntries r
def uptoBulkEntry {H : Type} : Lit × DataW H → Nat
  | (.string bytes, d) => bytes.length + uptoBulk d + 1
  | (_, d) => uptoBulk d + 1
 end
def uptoSmall : (H : Type) → List (DataW H) → Bool := fun _ ds => decide (uptoBulkAll ds ≤ 1048576)
def OpenSpec.upto (s : _root_.Go.ChangeSpec) : _root_.Go.OpenSpec := { _root_.Go.OpenSpec.ofChange s with cond := some uptoSmall }

/-- 'laws.FnExactOut', WHERE WHAT IT READS IS OF BULK AT MOST 1048576: true; the input reads as it did. -/
def fnExactOutUptoRow : OpenClaim := { program := "ytgebghkcikmfaaagreatdoor", sum := "f23fd820df89b77465b2bc31a438211768438f6cefa648619dd532b338262989", func := "loop.example/g00316/laws.FnExactOut", spec := "fnExactOut", unfollowed := true, recurses := true, named := ["loop.example/g00316/impl.divisors"], apart := false, laid := [("loop.example/g00316/impl.divisors", laid_loop_example_g00316_impl_divisors)], narrowed := true }
def FnExactOutUptoSaid : Prop := fnExactOutUptoRow.holds Tryz.pinned (OpenSpec.upto fnExactOutSpec)

/-- 'laws.FnExactIn', WHERE WHAT IT READS IS OF BULK AT MOST 1048576: true; the input reads as it did. -/
def fnExactInUptoRow : OpenClaim := { program := "ytgebghkcikmfaaagreatdoor", sum := "f23fd820df89b77465b2bc31a438211768438f6cefa648619dd532b338262989", func := "loop.example/g00316/laws.FnExactIn", spec := "fnExactIn", inPlace := ["internal/reflectlite.TypeOf", "internal/reflectlite.ValueOf", "(internal/reflectlite.Value).Type", "(internal/reflectlite.Value).IsNil", "(internal/reflectlite.Value).Elem", "(internal/reflectlite.Value).Set"], unfollowed := true, recurses := true, named := ["loop.example/g00316/impl.errMore", "loop.example/g00316/impl.errShort", "errors.errorType"], ifaces := true, apart := false, laid := [("errors.errorType", laid_errors_errorType), ("loop.example/g00316/impl.errShort", laid_loop_example_g00316_impl_errShort), ("loop.example/g00316/impl.errMore", laid_loop_example_g00316_impl_errMore)], narrowed := true }
def FnExactInUptoSaid : Prop := fnExactInUptoRow.holds Tryz.pinned (OpenSpec.upto fnExactInSpec)

end Rows
end Go.Proofs.YtgebghkcikmfaaaGreatDoor

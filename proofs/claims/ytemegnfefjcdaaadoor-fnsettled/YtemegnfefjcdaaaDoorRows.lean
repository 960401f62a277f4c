/-
  NARROWER THAN 'FOR EVERY INPUT', by the rows' own cells (each row's printed sentence says how): FnSteers: laid · FnSettled: laid · FnExactStirred: laid · FnExactSettled: laid.
  DERIVED. THE GIVEN ROWS OF THIS SEAT. 4 by the template 'for every input the law returns true; each argument reads behind the call as it read before'; 0 by the template 'total and deterministic' (their statements: YtemegnfefjcdaaaDoorTotals.lean).
  GIVEN WITH THE SEED: the statements are not yours to turn. If you find one false, say at which input.
  Laid BY PROGRAM, IN A SANDBOX (cutbox-rows.mjs): the forced cells as the released guide's own fill.sh prints them over the translation 2621bbc336d1a7c8… (all of the seat's roots in one cut). By AI agents, Wed Nov 11 2026. No macro, syntax, notation, axiom, sorry.
-/
import Derived.Test.YtemegnfefjcdaaaDoorChecked
import GoSem.Claim
import GoSem.ClaimJoined
import GoSem.ClaimMapViews
import Derived.JoinedTies
import Derived.KernelRfl
namespace Go.Proofs.YtemegnfefjcdaaaDoor
/- THE CELL 'sum', in the pinned program and in every row, IS THE sha256 OF THE DUMP (.gsa) THAT YtemegnfefjcdaaaDoorProg.lean LOADS. Nothing in Lean hashes anything: it is a label: what it is worth is what the hold of that sum in a sandbox is worth. -/
noncomputable def Tryd.pinned : Pinned := { name := "ytemegnfefjcdaaadoor", sum := "2621bbc336d1a7c810335f044943c7e093ee3af038079e730962f348f32da781", checked := Tryd.checked }
namespace Rows
def none {H : Type} : Left H := { results := [], args := [] }

/- WHAT THE LISTED PACKAGE-LEVEL VARIABLES READ AS WHEN THE CALL BEGINS. Each datum BY PROGRAM (the guide's laid-datum.mjs) off the statement by which the dump's own 'gosem.cut.vars' lays the variable. In a bare row this is a premise. The card (YtemegnfefjcdaaaDoorCards.lean) ties it to the program's text. -/
def laid_loop_example_g00316_impl_divisors {H : Type} : DataW H := .agg [.agg [.agg [.lit (.bool true), .lit (.bool true), .lit (.bool true), .lit (.bool true)], .lit (.int .i64 2048)], .agg [.agg [.lit (.bool false), .lit (.bool true), .lit (.bool true), .lit (.bool true)], .lit (.int .i64 512)], .agg [.agg [.lit (.bool false), .lit (.bool false), .lit (.bool true), .lit (.bool true)], .lit (.int .i64 128)], .agg [.agg [.lit (.bool false), .lit (.bool false), .lit (.bool false), .lit (.bool true)], .lit (.int .i64 32)]]

/-- 'laws.FnSteers': WHATEVER THE INPUT: true; the input reads as it did. -/
def fnSteersSpec : ChangeSpec := { name := "fnSteers", vars := ["loop.example/g00316/impl.divisors"], fn := fun _ => fun
  | [d, g1] => { results := [.lit (.bool true)], args := [d], vars := [g1] }
  | _ => none }
def fnSteersRow : OpenClaim := { program := "ytemegnfefjcdaaadoor", sum := "2621bbc336d1a7c810335f044943c7e093ee3af038079e730962f348f32da781", func := "loop.example/g00316/laws.FnSteers", spec := "fnSteers", named := ["loop.example/g00316/impl.divisors"], apart := false, laid := [("loop.example/g00316/impl.divisors", laid_loop_example_g00316_impl_divisors)] }
def FnSteersSaid : Prop := fnSteersRow.holds Tryd.pinned (OpenSpec.ofChange fnSteersSpec)

/-- ITS FALSE NEIGHBOUR: 'it returns false'. Refute it at one input. -/
def fnSteersWrong : ChangeSpec := { name := "fnSteers", vars := ["loop.example/g00316/impl.divisors"], fn := fun _ => fun
  | [d, g1] => { results := [.lit (.bool false)], args := [d], vars := [g1] }
  | _ => none }
def FnSteersWrongFalsely : Prop := fnSteersRow.holds Tryd.pinned (OpenSpec.ofChange fnSteersWrong)

/-- 'laws.FnSettled': WHATEVER THE INPUT: true; the input reads as it did. -/
def fnSettledSpec : ChangeSpec := { name := "fnSettled", vars := ["loop.example/g00316/impl.divisors"], fn := fun _ => fun
  | [d, g1] => { results := [.lit (.bool true)], args := [d], vars := [g1] }
  | _ => none }
def fnSettledRow : OpenClaim := { program := "ytemegnfefjcdaaadoor", sum := "2621bbc336d1a7c810335f044943c7e093ee3af038079e730962f348f32da781", func := "loop.example/g00316/laws.FnSettled", spec := "fnSettled", named := ["loop.example/g00316/impl.divisors"], apart := false, laid := [("loop.example/g00316/impl.divisors", laid_loop_example_g00316_impl_divisors)] }
def FnSettledSaid : Prop := fnSettledRow.holds Tryd.pinned (OpenSpec.ofChange fnSettledSpec)

/-- ITS FALSE NEIGHBOUR: 'it returns false'. Refute it at one input. -/
def fnSettledWrong : ChangeSpec := { name := "fnSettled", vars := ["loop.example/g00316/impl.divisors"], fn := fun _ => fun
  | [d, g1] => { results := [.lit (.bool false)], args := [d], vars := [g1] }
  | _ => none }
def FnSettledWrongFalsely : Prop := fnSettledRow.holds Tryd.pinned (OpenSpec.ofChange fnSettledWrong)

/-- 'laws.FnExactStirred': WHATEVER THE INPUT: true; the input reads as it did. -/
def fnExactStirredSpec : ChangeSpec := { name := "fnExactStirred", vars := ["loop.example/g00316/impl.divisors"], fn := fun _ => fun
  | [d1, d2, g1] => { results := [.lit (.bool true)], args := [d1, d2], vars := [g1] }
  | _ => none }
def fnExactStirredRow : OpenClaim := { program := "ytemegnfefjcdaaadoor", sum := "2621bbc336d1a7c810335f044943c7e093ee3af038079e730962f348f32da781", func := "loop.example/g00316/laws.FnExactStirred", spec := "fnExactStirred", named := ["loop.example/g00316/impl.divisors"], apart := false, laid := [("loop.example/g00316/impl.divisors", laid_loop_example_g00316_impl_divisors)] }
def FnExactStirredSaid : Prop := fnExactStirredRow.holds Tryd.pinned (OpenSpec.ofChange fnExactStirredSpec)

/-- ITS FALSE NEIGHBOUR: 'it returns false'. Refute it at one input. -/
def fnExactStirredWrong : ChangeSpec := { name := "fnExactStirred", vars := ["loop.example/g00316/impl.divisors"], fn := fun _ => fun
  | [d1, d2, g1] => { results := [.lit (.bool false)], args := [d1, d2], vars := [g1] }
  | _ => none }
def FnExactStirredWrongFalsely : Prop := fnExactStirredRow.holds Tryd.pinned (OpenSpec.ofChange fnExactStirredWrong)

/-- 'laws.FnExactSettled': WHATEVER THE INPUT: true; the input reads as it did. -/
def fnExactSettledSpec : ChangeSpec := { name := "fnExactSettled", vars := ["loop.example/g00316/impl.divisors"], fn := fun _ => fun
  | [d1, d2, d3, g1] => { results := [.lit (.bool true)], args := [d1, d2, d3], vars := [g1] }
  | _ => none }
def fnExactSettledRow : OpenClaim := { program := "ytemegnfefjcdaaadoor", sum := "2621bbc336d1a7c810335f044943c7e093ee3af038079e730962f348f32da781", func := "loop.example/g00316/laws.FnExactSettled", spec := "fnExactSettled", named := ["loop.example/g00316/impl.divisors"], apart := false, laid := [("loop.example/g00316/impl.divisors", laid_loop_example_g00316_impl_divisors)] }
def FnExactSettledSaid : Prop := fnExactSettledRow.holds Tryd.pinned (OpenSpec.ofChange fnExactSettledSpec)

/-- ITS FALSE NEIGHBOUR: 'it returns false'. Refute it at one input. -/
def fnExactSettledWrong : ChangeSpec := { name := "fnExactSettled", vars := ["loop.example/g00316/impl.divisors"], fn := fun _ => fun
  | [d1, d2, d3, g1] => { results := [.lit (.bool false)], args := [d1, d2, d3], vars := [g1] }
  | _ => none }
def FnExactSettledWrongFalsely : Prop := fnExactSettledRow.holds Tryd.pinned (OpenSpec.ofChange fnExactSettledWrong)

/- THE SECOND FORM. 'bulk': how many values and letters a reading holds, each counted each time it is reached (what is shared counts as often as it is met; a slice's spare places count too). A statement '..UptoSaid' is the law's where the arguments, and the package variables that the reading takes, are together of bulk at most 1048576: NARROWER than '..Said'. Prove '..Said' where nothing that the law and all that it calls make is longer than what came in: it says more and counts as full. Else prove '..UptoSaid'. A law counts once. -/
mutual
def uptoBulk {H : Type} : DataW H → Nat
  | .lit (.string bytes) => bytes.length + 1
  | .lit _ => 1
  | .nil => 1
  | .ptr d => uptoBulk d + 1
  | .slice elems spare => uptoBulkAll elems + uptoBulkAll spare + 1
  | .agg parts => uptoBulkAll parts + 1
  | .iface _ d => uptoBulk d + 1
  | .map entries => uptoBulkEntries entries + 1
  | .held _ => 1
def uptoBulkAll {H : Type} : List (DataW H) → Nat
  | [] => 0
  | d :: r => uptoBulk d + uptoBulkAll r
def uptoBulkEntries {H : Type} : List (Lit × DataW H) → Nat
  | [] => 0
  | x :: r => uptoBulkEntry x + uptoBulkEntries r
def uptoBulkEntry {H : Type} : Lit × DataW H → Nat
  | (.string bytes, d) => bytes.length + uptoBulk d + 1
  | (_, d) => uptoBulk d + 1
 end
def uptoSmall : (H : Type) → List (DataW H) → Bool := fun _ ds => decide (uptoBulkAll ds ≤ 1048576)
def OpenSpec.upto (s : _root_.Go.ChangeSpec) : _root_.Go.OpenSpec := { _root_.Go.OpenSpec.ofChange s with cond := some uptoSmall }

/-- 'laws.FnSteers', WHERE WHAT IT READS IS OF BULK AT MOST 1048576: true; the input reads as it did. -/
def fnSteersUptoRow : OpenClaim := { program := "ytemegnfefjcdaaadoor", sum := "2621bbc336d1a7c810335f044943c7e093ee3af038079e730962f348f32da781", func := "loop.example/g00316/laws.FnSteers", spec := "fnSteers", named := ["loop.example/g00316/impl.divisors"], apart := false, laid := [("loop.example/g00316/impl.divisors", laid_loop_example_g00316_impl_divisors)], narrowed := true }
def FnSteersUptoSaid : Prop := fnSteersUptoRow.holds Tryd.pinned (OpenSpec.upto fnSteersSpec)

/-- 'laws.FnSettled', WHERE WHAT IT READS IS OF BULK AT MOST 1048576: true; the input reads as it did. -/
def fnSettledUptoRow : OpenClaim := { program := "ytemegnfefjcdaaadoor", sum := "2621bbc336d1a7c810335f044943c7e093ee3af038079e730962f348f32da781", func := "loop.example/g00316/laws.FnSettled", spec := "fnSettled", named := ["loop.example/g00316/impl.divisors"], apart := false, laid := [("loop.example/g00316/impl.divisors", laid_loop_example_g00316_impl_divisors)], narrowed := true }
def FnSettledUptoSaid : Prop := fnSettledUptoRow.holds Tryd.pinned (OpenSpec.upto fnSettledSpec)

/-- 'laws.FnExactStirred', WHERE WHAT IT READS IS OF BULK AT MOST 1048576: true; the input reads as it did. -/
def fnExactStirredUptoRow : OpenClaim := { program := "ytemegnfefjcdaaadoor", sum := "2621bbc336d1a7c810335f044943c7e093ee3af038079e730962f348f32da781", func := "loop.example/g00316/laws.FnExactStirred", spec := "fnExactStirred", named := ["loop.example/g00316/impl.divisors"], apart := false, laid := [("loop.example/g00316/impl.divisors", laid_loop_example_g00316_impl_divisors)], narrowed := true }
def FnExactStirredUptoSaid : Prop := fnExactStirredUptoRow.holds Tryd.pinned (OpenSpec.upto fnExactStirredSpec)

/-- 'laws.FnExactSettled', WHERE WHAT IT READS IS OF BULK AT MOST 1048576: true; the input reads as it did. -/
def fnExactSettledUptoRow : OpenClaim := { program := "ytemegnfefjcdaaadoor", sum := "2621bbc336d1a7c810335f044943c7e093ee3af038079e730962f348f32da781", func := "loop.example/g00316/laws.FnExactSettled", spec := "fnExactSettled", named := ["loop.example/g00316/impl.divisors"], apart := false, laid := [("loop.example/g00316/impl.divisors", laid_loop_example_g00316_impl_divisors)], narrowed := true }
def FnExactSettledUptoSaid : Prop := fnExactSettledUptoRow.holds Tryd.pinned (OpenSpec.upto fnExactSettledSpec)

end Rows
end Go.Proofs.YtemegnfefjcdaaaDoor

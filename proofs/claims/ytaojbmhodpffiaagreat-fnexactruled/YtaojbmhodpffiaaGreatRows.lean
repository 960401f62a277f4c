/-
  No cell of these rows narrows 'for every input' (looked for: loops, veiled, ifaces, maps, wideKeys, modest, calm, conditions, laid).
  DERIVED. THE GIVEN ROWS OF THIS SEAT. 3 by the template 'for every input the law returns true; each argument reads behind the call as it read before'; 0 by the template 'total and deterministic' (their statements: YtaojbmhodpffiaaGreatTotals.lean).
  GIVEN WITH THE SEED: the statements are not yours to turn. If you find one false, say at which input.
  Laid BY PROGRAM, IN A SANDBOX (cutbox-rows.mjs): the forced cells as the released guide's own fill.sh prints them over the translation a2baeb23c5b0d8c3… (all of the seat's roots in one cut). By AI agents, Wed Nov 11 2026. No macro, syntax, notation, axiom, sorry.
-/
import Derived.Test.YtaojbmhodpffiaaGreatChecked
import GoSem.Claim
import GoSem.ClaimJoined
import GoSem.ClaimMapViews
import Derived.JoinedTies
import Derived.KernelRfl
namespace Go.Proofs.YtaojbmhodpffiaaGreat
/- THE CELL 'sum', in the pinned program and in every row, IS THE sha256 OF THE DUMP (.gsa) THAT YtaojbmhodpffiaaGreatProg.lean LOADS. Nothing in Lean hashes anything: it is a label: what it is worth is what the hold of that sum in a sandbox is worth. -/
noncomputable def Tryz.pinned : Pinned := { name := "ytaojbmhodpffiaagreat", sum := "a2baeb23c5b0d8c3628d1c8da07c6e46976b47f4cc00187938d654814eb48b54", checked := Tryz.checked }
namespace Rows
def none {H : Type} : Left H := { results := [], args := [] }

/-- 'laws.FnExactGateOk': WHATEVER THE INPUT: true; the input reads as it did. -/
def fnExactGateOkSpec : ChangeSpec := { name := "fnExactGateOk", fn := fun _ => fun
  | [d] => { results := [.lit (.bool true)], args := [d] }
  | _ => none }
def fnExactGateOkRow : OpenClaim := { program := "ytaojbmhodpffiaagreat", sum := "a2baeb23c5b0d8c3628d1c8da07c6e46976b47f4cc00187938d654814eb48b54", func := "loop.example/g00316/laws.FnExactGateOk", spec := "fnExactGateOk", unfollowed := true, recurses := true, apart := false }
def FnExactGateOkSaid : Prop := fnExactGateOkRow.holds Tryz.pinned (OpenSpec.ofChange fnExactGateOkSpec)

/-- ITS FALSE NEIGHBOUR: 'it returns false'. Refute it at one input. -/
def fnExactGateOkWrong : ChangeSpec := { name := "fnExactGateOk", fn := fun _ => fun
  | [d] => { results := [.lit (.bool false)], args := [d] }
  | _ => none }
def FnExactGateOkWrongFalsely : Prop := fnExactGateOkRow.holds Tryz.pinned (OpenSpec.ofChange fnExactGateOkWrong)

/-- 'laws.FnExactLater': WHATEVER THE INPUT: true; the input reads as it did. -/
def fnExactLaterSpec : ChangeSpec := { name := "fnExactLater", fn := fun _ => fun
  | [d1, d2] => { results := [.lit (.bool true)], args := [d1, d2] }
  | _ => none }
def fnExactLaterRow : OpenClaim := { program := "ytaojbmhodpffiaagreat", sum := "a2baeb23c5b0d8c3628d1c8da07c6e46976b47f4cc00187938d654814eb48b54", func := "loop.example/g00316/laws.FnExactLater", spec := "fnExactLater", unfollowed := true, recurses := true, apart := false }
def FnExactLaterSaid : Prop := fnExactLaterRow.holds Tryz.pinned (OpenSpec.ofChange fnExactLaterSpec)

/-- ITS FALSE NEIGHBOUR: 'it returns false'. Refute it at one input. -/
def fnExactLaterWrong : ChangeSpec := { name := "fnExactLater", fn := fun _ => fun
  | [d1, d2] => { results := [.lit (.bool false)], args := [d1, d2] }
  | _ => none }
def FnExactLaterWrongFalsely : Prop := fnExactLaterRow.holds Tryz.pinned (OpenSpec.ofChange fnExactLaterWrong)

/-- 'laws.FnExactRuled': WHATEVER THE INPUT: true; the input reads as it did. -/
def fnExactRuledSpec : ChangeSpec := { name := "fnExactRuled", fn := fun _ => fun
  | [d1, d2, d3] => { results := [.lit (.bool true)], args := [d1, d2, d3] }
  | _ => none }
def fnExactRuledRow : OpenClaim := { program := "ytaojbmhodpffiaagreat", sum := "a2baeb23c5b0d8c3628d1c8da07c6e46976b47f4cc00187938d654814eb48b54", func := "loop.example/g00316/laws.FnExactRuled", spec := "fnExactRuled", unfollowed := true, recurses := true, apart := false }
def FnExactRuledSaid : Prop := fnExactRuledRow.holds Tryz.pinned (OpenSpec.ofChange fnExactRuledSpec)

/-- ITS FALSE NEIGHBOUR: 'it returns false'. Refute it at one input. -/
def fnExactRuledWrong : ChangeSpec := { name := "fnExactRuled", fn := fun _ => fun
  | [d1, d2, d3] => { results := [.lit (.bool false)], args := [d1, d2, d3] }
  | _ => none }
def FnExactRuledWrongFalsely : Prop := fnExactRuledRow.holds Tryz.pinned (OpenSpec.ofChange fnExactRuledWrong)

/- THE SECOND FORM. 'bulk': how many values and letters a reading holds, each counted each time it is reached (what is shared counts as often as it is met; a slice's spare places count too). A statement '..UptoSaid' is the law's where the arguments, and the package variables that the reading takes, are together of bulk at most 1048576: NARROWER than '..Said'. Prove '..Said' where nothing that the law and all that it calls make is longer than what came in: it says more and counts as full. Else prove '..UptoSaid'. A law counts once. -/
mutual
def uptoBulk {H : Type} : DataW H → Nat
  | .lit (.string bytes) => bytes.length + 1
  | .lit _ => 1
  | .nil => 1
  | .ptr d => uptoBulk d + 1
  | .slice elems spare => uptoBulkAll elems + uptoBulkAll spare + 1
  | .agg parts => uptoBulkAll parts + 1
  | .iface _ d => uptoBulk d + 1
  | .map entries => uptoBulkEntries entries + 1
  | .held _ => 1
def uptoBulkAll {H : Type} : List (DataW H) → Nat
  | [] => 0
  | d :: r => uptoBulk d + uptoBulkAll r
def uptoBulkEntries {H : Type} : List (Lit × DataW H) → Nat
  | [] => 0
  | x :: r => uptoBulkEntry x + uptoBulkEntries r
def uptoBulkEntry {H : Type} : Lit × DataW H → Nat
  | (.string bytes, d) => bytes.length + uptoBulk d + 1
  | (_, d) => uptoBulk d + 1
 end
def uptoSmall : (H : Type) → List (DataW H) → Bool := fun _ ds => decide (uptoBulkAll ds ≤ 1048576)
def OpenSpec.upto (s : _root_.Go.ChangeSpec) : _root_.Go.OpenSpec := { _root_.Go.OpenSpec.ofChange s with cond := some uptoSmall }

/-- 'laws.FnExactGateOk', WHERE WHAT IT READS IS OF BULK AT MOST 1048576: true; the input reads as it did. -/
def fnExactGateOkUptoRow : OpenClaim := { program := "ytaojbmhodpffiaagreat", sum := "a2baeb23c5b0d8c3628d1c8da07c6e46976b47f4cc00187938d654814eb48b54", func := "loop.example/g00316/laws.FnExactGateOk", spec := "fnExactGateOk", unfollowed := true, recurses := true, apart := false, narrowed := true }
def FnExactGateOkUptoSaid : Prop := fnExactGateOkUptoRow.holds Tryz.pinned (OpenSpec.upto fnExactGateOkSpec)

/-- 'laws.FnExactLater', WHERE WHAT IT READS IS OF BULK AT MOST 1048576: true; the input reads as it did. -/
def fnExactLaterUptoRow : OpenClaim := { program := "ytaojbmhodpffiaagreat", sum := "a2baeb23c5b0d8c3628d1c8da07c6e46976b47f4cc00187938d654814eb48b54", func := "loop.example/g00316/laws.FnExactLater", spec := "fnExactLater", unfollowed := true, recurses := true, apart := false, narrowed := true }
def FnExactLaterUptoSaid : Prop := fnExactLaterUptoRow.holds Tryz.pinned (OpenSpec.upto fnExactLaterSpec)

/-- 'laws.FnExactRuled', WHERE WHAT IT READS IS OF BULK AT MOST 1048576: true; the input reads as it did. -/
def fnExactRuledUptoRow : OpenClaim := { program := "ytaojbmhodpffiaagreat", sum := "a2baeb23c5b0d8c3628d1c8da07c6e46976b47f4cc00187938d654814eb48b54", func := "loop.example/g00316/laws.FnExactRuled", spec := "fnExactRuled", unfollowed := true, recurses := true, apart := false, narrowed := true }
def FnExactRuledUptoSaid : Prop := fnExactRuledUptoRow.holds Tryz.pinned (OpenSpec.upto fnExactRuledSpec)

end Rows
end Go.Proofs.YtaojbmhodpffiaaGreat

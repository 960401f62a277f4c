/-
  No cell of these rows narrows 'for every input' (looked for: loops, veiled, ifaces, maps, wideKeys, modest, calm, conditions, laid).
  DERIVED. THE GIVEN ROWS OF THIS SEAT. 5 by the template 'for every input the law returns true; each argument reads behind the call as it read before'; 0 by the template 'total and deterministic' (their statements: YtlednodibgcpeaaTotals.lean).
  GIVEN WITH THE SEED: the statements are not yours to turn. If you find one false, say at which input.
  Laid BY PROGRAM, IN A SANDBOX (cutbox-rows.mjs): the forced cells as the released guide's own fill.sh prints them over the translation 5b46fa4283caceb4… (all of the seat's roots in one cut). By AI agents, Wed Nov 11 2026. No macro, syntax, notation, axiom, sorry.
-/
import Derived.Test.YtlednodibgcpeaaChecked
import GoSem.Claim
import GoSem.ClaimJoined
import GoSem.ClaimMapViews
import Derived.JoinedTies
import Derived.KernelRfl
namespace Go.Proofs.Ytlednodibgcpeaa
/- THE CELL 'sum', in the pinned program and in every row, IS THE sha256 OF THE DUMP (.gsa) THAT YtlednodibgcpeaaProg.lean LOADS. Nothing in Lean hashes anything: it is a label: what it is worth is what the hold of that sum in a sandbox is worth. -/
noncomputable def Try.pinned : Pinned := { name := "ytlednodibgcpeaa", sum := "5b46fa4283caceb47b111fc3b327bbe73e078924b3f9f238d9658ca33610d66c", checked := Try.checked }
namespace Rows
def none {H : Type} : Left H := { results := [], args := [] }

/-- 'laws.FnCoupled': WHATEVER THE INPUT: true; the input reads as it did. -/
def fnCoupledSpec : ChangeSpec := { name := "fnCoupled", fn := fun _ => fun
  | [d] => { results := [.lit (.bool true)], args := [d] }
  | _ => none }
def fnCoupledRow : OpenClaim := { program := "ytlednodibgcpeaa", sum := "5b46fa4283caceb47b111fc3b327bbe73e078924b3f9f238d9658ca33610d66c", func := "loop.example/g00316/laws.FnCoupled", spec := "fnCoupled", unfollowed := true, recurses := true, apart := false }
def FnCoupledSaid : Prop := fnCoupledRow.holds Try.pinned (OpenSpec.ofChange fnCoupledSpec)

/-- ITS FALSE NEIGHBOUR: 'it returns false'. Refute it at one input. -/
def fnCoupledWrong : ChangeSpec := { name := "fnCoupled", fn := fun _ => fun
  | [d] => { results := [.lit (.bool false)], args := [d] }
  | _ => none }
def FnCoupledWrongFalsely : Prop := fnCoupledRow.holds Try.pinned (OpenSpec.ofChange fnCoupledWrong)

/-- 'laws.FnExactSquared': WHATEVER THE INPUT: true; the input reads as it did. -/
def fnExactSquaredSpec : ChangeSpec := { name := "fnExactSquared", fn := fun _ => fun
  | [d] => { results := [.lit (.bool true)], args := [d] }
  | _ => none }
def fnExactSquaredRow : OpenClaim := { program := "ytlednodibgcpeaa", sum := "5b46fa4283caceb47b111fc3b327bbe73e078924b3f9f238d9658ca33610d66c", func := "loop.example/g00316/laws.FnExactSquared", spec := "fnExactSquared", apart := false }
def FnExactSquaredSaid : Prop := fnExactSquaredRow.holds Try.pinned (OpenSpec.ofChange fnExactSquaredSpec)

/-- ITS FALSE NEIGHBOUR: 'it returns false'. Refute it at one input. -/
def fnExactSquaredWrong : ChangeSpec := { name := "fnExactSquared", fn := fun _ => fun
  | [d] => { results := [.lit (.bool false)], args := [d] }
  | _ => none }
def FnExactSquaredWrongFalsely : Prop := fnExactSquaredRow.holds Try.pinned (OpenSpec.ofChange fnExactSquaredWrong)

/-- 'laws.FnExactCoupled': WHATEVER THE INPUT: true; the input reads as it did. -/
def fnExactCoupledSpec : ChangeSpec := { name := "fnExactCoupled", fn := fun _ => fun
  | [d1, d2] => { results := [.lit (.bool true)], args := [d1, d2] }
  | _ => none }
def fnExactCoupledRow : OpenClaim := { program := "ytlednodibgcpeaa", sum := "5b46fa4283caceb47b111fc3b327bbe73e078924b3f9f238d9658ca33610d66c", func := "loop.example/g00316/laws.FnExactCoupled", spec := "fnExactCoupled", apart := false }
def FnExactCoupledSaid : Prop := fnExactCoupledRow.holds Try.pinned (OpenSpec.ofChange fnExactCoupledSpec)

/-- ITS FALSE NEIGHBOUR: 'it returns false'. Refute it at one input. -/
def fnExactCoupledWrong : ChangeSpec := { name := "fnExactCoupled", fn := fun _ => fun
  | [d1, d2] => { results := [.lit (.bool false)], args := [d1, d2] }
  | _ => none }
def FnExactCoupledWrongFalsely : Prop := fnExactCoupledRow.holds Try.pinned (OpenSpec.ofChange fnExactCoupledWrong)

/-- 'laws.FnExactFair': WHATEVER THE INPUT: true; the input reads as it did. -/
def fnExactFairSpec : ChangeSpec := { name := "fnExactFair", fn := fun _ => fun
  | [d1, d2] => { results := [.lit (.bool true)], args := [d1, d2] }
  | _ => none }
def fnExactFairRow : OpenClaim := { program := "ytlednodibgcpeaa", sum := "5b46fa4283caceb47b111fc3b327bbe73e078924b3f9f238d9658ca33610d66c", func := "loop.example/g00316/laws.FnExactFair", spec := "fnExactFair", apart := false }
def FnExactFairSaid : Prop := fnExactFairRow.holds Try.pinned (OpenSpec.ofChange fnExactFairSpec)

/-- ITS FALSE NEIGHBOUR: 'it returns false'. Refute it at one input. -/
def fnExactFairWrong : ChangeSpec := { name := "fnExactFair", fn := fun _ => fun
  | [d1, d2] => { results := [.lit (.bool false)], args := [d1, d2] }
  | _ => none }
def FnExactFairWrongFalsely : Prop := fnExactFairRow.holds Try.pinned (OpenSpec.ofChange fnExactFairWrong)

/-- 'laws.FnExactChoice': WHATEVER THE INPUT: true; the input reads as it did. -/
def fnExactChoiceSpec : ChangeSpec := { name := "fnExactChoice", fn := fun _ => fun
  | [d1, d2, d3, d4] => { results := [.lit (.bool true)], args := [d1, d2, d3, d4] }
  | _ => none }
def fnExactChoiceRow : OpenClaim := { program := "ytlednodibgcpeaa", sum := "5b46fa4283caceb47b111fc3b327bbe73e078924b3f9f238d9658ca33610d66c", func := "loop.example/g00316/laws.FnExactChoice", spec := "fnExactChoice", unfollowed := true, recurses := true, apart := false }
def FnExactChoiceSaid : Prop := fnExactChoiceRow.holds Try.pinned (OpenSpec.ofChange fnExactChoiceSpec)

/-- ITS FALSE NEIGHBOUR: 'it returns false'. Refute it at one input. -/
def fnExactChoiceWrong : ChangeSpec := { name := "fnExactChoice", fn := fun _ => fun
  | [d1, d2, d3, d4] => { results := [.lit (.bool false)], args := [d1, d2, d3, d4] }
  | _ => none }
def FnExactChoiceWrongFalsely : Prop := fnExactChoiceRow.holds Try.pinned (OpenSpec.ofChange fnExactChoiceWrong)

/- THE SECOND FORM. 'bulk': how many values and letters a reading holds, each counted each time it is reached (what is shared counts as often as it is met; a slice's spare places count too). A statement '..UptoSaid' is the law's where the arguments, and the package variables that the reading takes, are together of bulk at most 1048576: NARROWER than '..Said'. Prove '..Said' where nothing that the law and all that it calls make is longer than what came in: it says more and counts as full. Else prove '..UptoSaid'. A law counts once. -/
mutual
def uptoBulk {H : Type} : DataW H → Nat
  | .lit (.string bytes) => bytes.length + 1
  | .lit _ => 1
  | .nil => 1
  | .ptr d => uptoBulk d + 1
  | .slice elems spare => uptoBulkAll elems + uptoBulkAll spare + 1
  | .agg parts => uptoBulkAll parts + 1
  | .iface _ d => uptoBulk d + 1
  | .map entries => uptoBulkEntries entries + 1
  | .held _ => 1
def uptoBulkAll {H : Type} : List (DataW H) → Nat
  | [] => 0
  | d :: r => uptoBulk d + uptoBulkAll r
def uptoBulkEntries {H : Type} : List (Lit × DataW H) → Nat
  | [] => 0
  | x :: r => uptoBulkEntry x + uptoBulkEntries r
def uptoBulkEntry {H : Type} : Lit × DataW H → Nat
  | (.string bytes, d) => bytes.length + uptoBulk d + 1
  | (_, d) => uptoBulk d + 1
 end
def uptoSmall : (H : Type) → List (DataW H) → Bool := fun _ ds => decide (uptoBulkAll ds ≤ 1048576)
def OpenSpec.upto (s : _root_.Go.ChangeSpec) : _root_.Go.OpenSpec := { _root_.Go.OpenSpec.ofChange s with cond := some uptoSmall }

/-- 'laws.FnCoupled', WHERE WHAT IT READS IS OF BULK AT MOST 1048576: true; the input reads as it did. -/
def fnCoupledUptoRow : OpenClaim := { program := "ytlednodibgcpeaa", sum := "5b46fa4283caceb47b111fc3b327bbe73e078924b3f9f238d9658ca33610d66c", func := "loop.example/g00316/laws.FnCoupled", spec := "fnCoupled", unfollowed := true, recurses := true, apart := false, narrowed := true }
def FnCoupledUptoSaid : Prop := fnCoupledUptoRow.holds Try.pinned (OpenSpec.upto fnCoupledSpec)

/-- 'laws.FnExactSquared', WHERE WHAT IT READS IS OF BULK AT MOST 1048576: true; the input reads as it did. -/
def fnExactSquaredUptoRow : OpenClaim := { program := "ytlednodibgcpeaa", sum := "5b46fa4283caceb47b111fc3b327bbe73e078924b3f9f238d9658ca33610d66c", func := "loop.example/g00316/laws.FnExactSquared", spec := "fnExactSquared", apart := false, narrowed := true }
def FnExactSquaredUptoSaid : Prop := fnExactSquaredUptoRow.holds Try.pinned (OpenSpec.upto fnExactSquaredSpec)

/-- 'laws.FnExactCoupled', WHERE WHAT IT READS IS OF BULK AT MOST 1048576: true; the input reads as it did. -/
def fnExactCoupledUptoRow : OpenClaim := { program := "ytlednodibgcpeaa", sum := "5b46fa4283caceb47b111fc3b327bbe73e078924b3f9f238d9658ca33610d66c", func := "loop.example/g00316/laws.FnExactCoupled", spec := "fnExactCoupled", apart := false, narrowed := true }
def FnExactCoupledUptoSaid : Prop := fnExactCoupledUptoRow.holds Try.pinned (OpenSpec.upto fnExactCoupledSpec)

/-- 'laws.FnExactFair', WHERE WHAT IT READS IS OF BULK AT MOST 1048576: true; the input reads as it did. -/
def fnExactFairUptoRow : OpenClaim := { program := "ytlednodibgcpeaa", sum := "5b46fa4283caceb47b111fc3b327bbe73e078924b3f9f238d9658ca33610d66c", func := "loop.example/g00316/laws.FnExactFair", spec := "fnExactFair", apart := false, narrowed := true }
def FnExactFairUptoSaid : Prop := fnExactFairUptoRow.holds Try.pinned (OpenSpec.upto fnExactFairSpec)

/-- 'laws.FnExactChoice', WHERE WHAT IT READS IS OF BULK AT MOST 1048576: true; the input reads as it did. -/
def fnExactChoiceUptoRow : OpenClaim := { program := "ytlednodibgcpeaa", sum := "5b46fa4283caceb47b111fc3b327bbe73e078924b3f9f238d9658ca33610d66c", func := "loop.example/g00316/laws.FnExactChoice", spec := "fnExactChoice", unfollowed := true, recurses := true, apart := false, narrowed := true }
def FnExactChoiceUptoSaid : Prop := fnExactChoiceUptoRow.holds Try.pinned (OpenSpec.upto fnExactChoiceSpec)

end Rows
end Go.Proofs.Ytlednodibgcpeaa

/-
  No cell of these rows narrows 'for every input' (looked for: loops, veiled, ifaces, maps, wideKeys, modest, calm, conditions, laid).
  DERIVED. THE GIVEN ROWS OF THIS SEAT. 3 by the template 'for every input the law returns true; each argument reads behind the call as it read before'; 0 by the template 'total and deterministic' (their statements: YtdoijemkbjkeeaaTotals.lean).
  GIVEN WITH THE SEED: the statements are not yours to turn. If you find one false, say at which input.
  Laid BY PROGRAM, IN A SANDBOX (cutbox-rows.mjs): the forced cells as the released guide's own fill.sh prints them over the translation bd5c81716a478673… (all of the seat's roots in one cut). By AI agents, Wed Nov 11 2026. No macro, syntax, notation, axiom, sorry.
-/
import Derived.Test.YtdoijemkbjkeeaaChecked
import GoSem.Claim
import GoSem.ClaimJoined
import GoSem.ClaimMapViews
import Derived.JoinedTies
import Derived.KernelRfl
namespace Go.Proofs.Ytdoijemkbjkeeaa
/- THE CELL 'sum', in the pinned program and in every row, IS THE sha256 OF THE DUMP (.gsa) THAT YtdoijemkbjkeeaaProg.lean LOADS. Nothing in Lean hashes anything: it is a label: what it is worth is what the hold of that sum in a sandbox is worth. -/
noncomputable def Try.pinned : Pinned := { name := "ytdoijemkbjkeeaa", sum := "bd5c81716a478673bf91c4c9b0555de74c23ceab36c75d6e52ef65682d34f99e", checked := Try.checked }
namespace Rows
def none {H : Type} : Left H := { results := [], args := [] }

/-- 'laws.FnExactWheelPut': WHATEVER THE INPUT: true; the input reads as it did. -/
def fnExactWheelPutSpec : ChangeSpec := { name := "fnExactWheelPut", fn := fun _ => fun
  | [d1, d2] => { results := [.lit (.bool true)], args := [d1, d2] }
  | _ => none }
def fnExactWheelPutRow : OpenClaim := { program := "ytdoijemkbjkeeaa", sum := "bd5c81716a478673bf91c4c9b0555de74c23ceab36c75d6e52ef65682d34f99e", func := "loop.example/g00316/laws.FnExactWheelPut", spec := "fnExactWheelPut", inPlace := ["slices.overlaps[loop.example/g00316/impl.Due]"], unfollowed := true, recurses := true, apart := false }
def FnExactWheelPutSaid : Prop := fnExactWheelPutRow.holds Try.pinned (OpenSpec.ofChange fnExactWheelPutSpec)

/-- ITS FALSE NEIGHBOUR: 'it returns false'. Refute it at one input. -/
def fnExactWheelPutWrong : ChangeSpec := { name := "fnExactWheelPut", fn := fun _ => fun
  | [d1, d2] => { results := [.lit (.bool false)], args := [d1, d2] }
  | _ => none }
def FnExactWheelPutWrongFalsely : Prop := fnExactWheelPutRow.holds Try.pinned (OpenSpec.ofChange fnExactWheelPutWrong)

/-- 'laws.FnExactToWheel': WHATEVER THE INPUT: true; the input reads as it did. -/
def fnExactToWheelSpec : ChangeSpec := { name := "fnExactToWheel", fn := fun _ => fun
  | [d1, d2] => { results := [.lit (.bool true)], args := [d1, d2] }
  | _ => none }
def fnExactToWheelRow : OpenClaim := { program := "ytdoijemkbjkeeaa", sum := "bd5c81716a478673bf91c4c9b0555de74c23ceab36c75d6e52ef65682d34f99e", func := "loop.example/g00316/laws.FnExactToWheel", spec := "fnExactToWheel", unfollowed := true, recurses := true, apart := false }
def FnExactToWheelSaid : Prop := fnExactToWheelRow.holds Try.pinned (OpenSpec.ofChange fnExactToWheelSpec)

/-- ITS FALSE NEIGHBOUR: 'it returns false'. Refute it at one input. -/
def fnExactToWheelWrong : ChangeSpec := { name := "fnExactToWheel", fn := fun _ => fun
  | [d1, d2] => { results := [.lit (.bool false)], args := [d1, d2] }
  | _ => none }
def FnExactToWheelWrongFalsely : Prop := fnExactToWheelRow.holds Try.pinned (OpenSpec.ofChange fnExactToWheelWrong)

/-- 'laws.FnExactToHeap': WHATEVER THE INPUT: true; the input reads as it did. -/
def fnExactToHeapSpec : ChangeSpec := { name := "fnExactToHeap", fn := fun _ => fun
  | [d] => { results := [.lit (.bool true)], args := [d] }
  | _ => none }
def fnExactToHeapRow : OpenClaim := { program := "ytdoijemkbjkeeaa", sum := "bd5c81716a478673bf91c4c9b0555de74c23ceab36c75d6e52ef65682d34f99e", func := "loop.example/g00316/laws.FnExactToHeap", spec := "fnExactToHeap", unfollowed := true, recurses := true, apart := false }
def FnExactToHeapSaid : Prop := fnExactToHeapRow.holds Try.pinned (OpenSpec.ofChange fnExactToHeapSpec)

/-- ITS FALSE NEIGHBOUR: 'it returns false'. Refute it at one input. -/
def fnExactToHeapWrong : ChangeSpec := { name := "fnExactToHeap", fn := fun _ => fun
  | [d] => { results := [.lit (.bool false)], args := [d] }
  | _ => none }
def FnExactToHeapWrongFalsely : Prop := fnExactToHeapRow.holds Try.pinned (OpenSpec.ofChange fnExactToHeapWrong)

/- THE SECOND FORM. 'bulk': how many values and letters a reading holds, each counted each time it is reached (what is shared counts as often as it is met; a slice's spare places count too). A statement '..UptoSaid' is the law's where the arguments, and the package variables that the reading takes, are together of bulk at most 1048576: NARROWER than '..Said'. Prove '..Said' where nothing that the law and all that it calls make is longer than what came in: it says more and counts as full. Else prove '..UptoSaid'. A law counts once. -/
mutual
def uptoBulk {H : Type} : DataW H → Nat
  | .lit (.string bytes) => bytes.length + 1
  | .lit _ => 1
  | .nil => 1
  | .ptr d => uptoBulk d + 1
  | .slice elems spare => uptoBulkAll elems + uptoBulkAll spare + 1
  | .agg parts => uptoBulkAll parts + 1
  | .iface _ d => uptoBulk d + 1
  | .map entries => uptoBulkEntries entries + 1
  | .held _ => 1
def uptoBulkAll {H : Type} : List (DataW H) → Nat
  | [] => 0
  | d :: r => uptoBulk d + uptoBulkAll r
def uptoBulkEntries {H : Type} : List (Lit × DataW H) → Nat
  | [] => 0
  | x :: r => uptoBulkEntry x + uptoBulkEntries r
def uptoBulkEntry {H : Type} : Lit × DataW H → Nat
  | (.string bytes, d) => bytes.length + uptoBulk d + 1
  | (_, d) => uptoBulk d + 1
 end
def uptoSmall : (H : Type) → List (DataW H) → Bool := fun _ ds => decide (uptoBulkAll ds ≤ 1048576)
def OpenSpec.upto (s : _root_.Go.ChangeSpec) : _root_.Go.OpenSpec := { _root_.Go.OpenSpec.ofChange s with cond := some uptoSmall }

/-- 'laws.FnExactWheelPut', WHERE WHAT IT READS IS OF BULK AT MOST 1048576: true; the input reads as it did. -/
def fnExactWheelPutUptoRow : OpenClaim := { program := "ytdoijemkbjkeeaa", sum := "bd5c81716a478673bf91c4c9b0555de74c23ceab36c75d6e52ef65682d34f99e", func := "loop.example/g00316/laws.FnExactWheelPut", spec := "fnExactWheelPut", inPlace := ["slices.overlaps[loop.example/g00316/impl.Due]"], unfollowed := true, recurses := true, apart := false, narrowed := true }
def FnExactWheelPutUptoSaid : Prop := fnExactWheelPutUptoRow.holds Try.pinned (OpenSpec.upto fnExactWheelPutSpec)

/-- 'laws.FnExactToWheel', WHERE WHAT IT READS IS OF BULK AT MOST 1048576: true; the input reads as it did. -/
def fnExactToWheelUptoRow : OpenClaim := { program := "ytdoijemkbjkeeaa", sum := "bd5c81716a478673bf91c4c9b0555de74c23ceab36c75d6e52ef65682d34f99e", func := "loop.example/g00316/laws.FnExactToWheel", spec := "fnExactToWheel", unfollowed := true, recurses := true, apart := false, narrowed := true }
def FnExactToWheelUptoSaid : Prop := fnExactToWheelUptoRow.holds Try.pinned (OpenSpec.upto fnExactToWheelSpec)

/-- 'laws.FnExactToHeap', WHERE WHAT IT READS IS OF BULK AT MOST 1048576: true; the input reads as it did. -/
def fnExactToHeapUptoRow : OpenClaim := { program := "ytdoijemkbjkeeaa", sum := "bd5c81716a478673bf91c4c9b0555de74c23ceab36c75d6e52ef65682d34f99e", func := "loop.example/g00316/laws.FnExactToHeap", spec := "fnExactToHeap", unfollowed := true, recurses := true, apart := false, narrowed := true }
def FnExactToHeapUptoSaid : Prop := fnExactToHeapUptoRow.holds Try.pinned (OpenSpec.upto fnExactToHeapSpec)

end Rows
end Go.Proofs.Ytdoijemkbjkeeaa

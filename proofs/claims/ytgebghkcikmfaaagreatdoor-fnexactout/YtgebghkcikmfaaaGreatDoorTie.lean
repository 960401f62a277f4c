/-
  DERIVED. GIVEN WITH THE SEED: THE PROGRAM's TIES (one call each: nine closed facts by the kernel) AND EACH ROW's TIE, after the 31st guide's Derived/Test/Toyas{Tie, Card}.lean. No idea stands in it: it is a product of the set-up. Laid BY PROGRAM, IN A SANDBOX (cutbox-door.mjs). By AI agents, Wed Nov 11 2026. No macro, syntax, notation, axiom, sorry.
-/
import Derived.Test.YtgebghkcikmfaaaGreatDoorRows
import Derived.LaidByTextLater
import Derived.SevenTiedAt
import Derived.LaidSub
import Derived.LaidOnce
namespace Go.Proofs.YtgebghkcikmfaaaGreatDoor
open Go
set_option maxRecDepth 100000
theorem seatTie1 : Tryz.prog.laidByTextLater [("errors.errorType", Rows.laid_errors_errorType), ("loop.example/g00316/impl.errShort", Rows.laid_loop_example_g00316_impl_errShort), ("loop.example/g00316/impl.errMore", Rows.laid_loop_example_g00316_impl_errMore), ("loop.example/g00316/impl.divisors", Rows.laid_loop_example_g00316_impl_divisors)] [.handle, .sentinel, .sentinel, .data] true :=
  Program.laidByTextLater_by_one 67 8 21 (by kernel_rfl) (by kernel_rfl) (by kernel_rfl) (by kernel_rfl) (by kernel_rfl) (by kernel_rfl) (fun _ _ => by kernel_rfl)
theorem noOwnUnsafe : Tryz.pinned.checked.prog.headLifts.contains "ownunsafe" = false := by kernel_rfl
theorem tie : Tryz.prog.laidByTextLater [("loop.example/g00316/impl.divisors", Rows.laid_loop_example_g00316_impl_divisors)] [.data] true :=
  Program.laidByTextLater.sub seatTie1 ["loop.example/g00316/impl.divisors"] (by kernel_rfl) (by kernel_rfl)
theorem fnExactOut_row_tie : Rows.fnExactOutRow.laidByTextAt .later Tryz.pinned [.data] true :=
  OpenClaim.laidByTextAt_later rfl rfl tie noOwnUnsafe
theorem tie2 : Tryz.prog.laidByTextLater [("errors.errorType", Rows.laid_errors_errorType), ("loop.example/g00316/impl.errShort", Rows.laid_loop_example_g00316_impl_errShort), ("loop.example/g00316/impl.errMore", Rows.laid_loop_example_g00316_impl_errMore)] [.handle, .sentinel, .sentinel] true :=
  Program.laidByTextLater.sub seatTie1 ["errors.errorType", "loop.example/g00316/impl.errShort", "loop.example/g00316/impl.errMore"] (by kernel_rfl) (by kernel_rfl)
theorem fnExactIn_row_tie : Rows.fnExactInRow.laidByTextAt .later Tryz.pinned [.handle, .sentinel, .sentinel] true :=
  OpenClaim.laidByTextAt_later rfl rfl tie2 noOwnUnsafe
theorem fnExactOutUpto_row_tie : Rows.fnExactOutUptoRow.laidByTextAt .later Tryz.pinned [.data] true :=
  OpenClaim.laidByTextAt_later rfl rfl tie noOwnUnsafe
theorem fnExactInUpto_row_tie : Rows.fnExactInUptoRow.laidByTextAt .later Tryz.pinned [.handle, .sentinel, .sentinel] true :=
  OpenClaim.laidByTextAt_later rfl rfl tie2 noOwnUnsafe
end Go.Proofs.YtgebghkcikmfaaaGreatDoor

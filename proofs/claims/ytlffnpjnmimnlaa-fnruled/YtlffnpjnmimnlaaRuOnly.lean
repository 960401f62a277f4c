/-
  The walk of the program's narrowest rule of a frame. By the verifier.
-/
import Derived.Test.YtlffnpjnmimnlaaRuCov
namespace Go.Proofs.Ytlffnpjnmimnlaa
open Go.RowKit

set_option maxHeartbeats 3200000 in
set_option maxRecDepth 100000 in
theorem implOnly (f : Fr) (a : Option Addr) (c : Nat) (w : World) :
    Calls Try.prog 33 #[f.val a c] w fun e w' => e = .returned (onlyR f).val ∧ Below w.heap.size w w' := by
  obtain ⟨f0, g1, ft, fs, fd, fp, sp, dp, mk, sm, fb⟩ := f
  simp only [Ru.val, Fr.val, onlyR]
  generalize ft.length = nf
  have HB : Hid (∀ x y : Obj, Below w.heap.size w ((w.alloc x).alloc y)) := fun x y => ((Below.refl _ w).alloc (Nat.le_refl _) _).alloc (by simp) _
  go_enter Try.func33, Try.ntmps33
  go_wp2
  refine bodyPost_ret (v := .agg #[.int .i64 0, .int .i64 0, .int .i64 fs, .int .i64 32, .int .i64 fd, .int .i64 32, .int .i64 fp, .int .i64 dp, .int .i64 dp, .int .i64 0]) (by simp [results, Try.results33, go_sem]) rfl ⟨rfl, ?_⟩
  repeat (first | exact HB.out _ _ | refine Below.setCell ?_ (by simp) _)
end Go.Proofs.Ytlffnpjnmimnlaa

import Derived.RowKit3
import Derived.Below
import Derived.Test.YtdnghdepiiimmaaFrPlain
import Derived.Test.YtdnghdepiiimmaaRows
import Derived.RegionTactic
import Derived.WalkKit
/-
  A record of 4 numbers (Purse) as plain data. By the verifier, by program.
-/
namespace Go.Proofs.Ytdnghdepiiimmaa
open Go.RowKit

structure Pz where
  rate : Int
  burst : Int
  level : Int
  tm : Int
/-- As a value. -/
def Pz.val (r : Pz) : Value := .agg #[.int .i64 r.rate, .int .i64 r.burst, .int .i64 r.level, .int .i64 r.tm]
/-- Its cells. -/
def Pz.cells (r : Pz) : List Value := [.int .i64 r.rate, .int .i64 r.burst, .int .i64 r.level, .int .i64 r.tm]
theorem pzInfo : (Try.prog.info? 42).map (fun i => (i.zero, i.size, i.bytes)) = some (some (.agg #[.int .i64 0, .int .i64 0, .int .i64 0, .int .i64 0]), 4, 32) := by kernel_rfl
theorem pzOnes (v0 v1 v2 v3 : Int) : (#[Value.int .i64 v0, Value.int .i64 v1, Value.int .i64 v2, Value.int .i64 v3] : Array Value).all (·.oneCell') = true := by simp [Value.oneCell']
end Go.Proofs.Ytdnghdepiiimmaa

/-
  The walk of the laws' comparison of two records (Purse) that are alike. By the verifier, by program.
-/
namespace Go.Proofs.Ytdnghdepiiimmaa
open Go.RowKit

set_option maxHeartbeats 3200000 in
set_option maxRecDepth 100000 in
theorem eqPz (r : Pz) (w : World) :
    Calls Try.prog 55 #[r.val, r.val] w fun e w' => e = .returned (.bool true) ∧ Below w.heap.size w w' := by
  unfold Pz.val
  obtain ⟨v0, v1, v2, v3⟩ := r
  simp only []
  have H : Hid (Below w.heap.size w ((w.alloc (.cells #[.int .i64 v0, .int .i64 v1, .int .i64 v2, .int .i64 v3] 42)).alloc (.cells #[.int .i64 v0, .int .i64 v1, .int .i64 v2, .int .i64 v3] 42))) := ((Below.refl _ w).alloc (Nat.le_refl _) _).alloc (by simp) _
  go_enter Try.func55, Try.ntmps55
  go_wp2
  go_ret
  exact ⟨rfl, H.out⟩
end Go.Proofs.Ytdnghdepiiimmaa

/-
  The walks of the program's belowOf and divisorOf, the table of divisors given. By the verifier.
-/
import Derived.Test.YtemegnfefjcdaaaDoorSrPlain
import Derived.Test.YtemegnfefjcdaaaDoorBoxed
import Derived.Test.YtemegnfefjcdaaaDoorStepRow
import Derived.Deep.MidRow
import Derived.Laws.ResultCell
import Derived.Laws.CopyOwn
import Derived.WalkKit
import Derived.WalkSpells
import Derived.WalkLawsBesides
import Derived.RegionTactic
namespace Go.Proofs.YtemegnfefjcdaaaDoor
open Go.RowKit

/-- The table's cells. -/
def dvCells : Array Value := #[.bool true, .bool true, .bool true, .bool true, .int .i64 2048, .bool false, .bool true, .bool true, .bool true, .int .i64 512, .bool false, .bool false, .bool true, .bool true, .int .i64 128, .bool false, .bool false, .bool false, .bool true, .int .i64 32]
/-- The table lies where it is. -/
def Dv (w : World) : Prop := ∃ t, Boxed w 0 dvCells t
theorem Dv.below {w w' : World} (h : Dv w) {b : Nat} (hb : 0 < b) (g : Below b w w') : Dv w' := by
  obtain ⟨t, h⟩ := h
  exact ⟨t, h.below hb g⟩
theorem Dv.under {w : World} (h : Dv w) : 0 < w.heap.size := by
  obtain ⟨t, h⟩ := h
  exact h.under
theorem Dv.on {w w' : World} (h : Dv w) (g : Below w.heap.size w w') : Dv w' := h.below h.under g

theorem bwOnes (b0 b1 b2 b3 : Bool) : (#[Value.bool b0, Value.bool b1, Value.bool b2, Value.bool b3] : Array Value).all (·.oneCell') = true := by simp [Value.oneCell']
theorem dvOnes (b0 b1 b2 b3 : Bool) (n : Int) : (#[Value.bool b0, Value.bool b1, Value.bool b2, Value.bool b3, Value.int .i64 n] : Array Value).all (·.oneCell') = true := by simp [Value.oneCell']

set_option maxHeartbeats 1600000 in
theorem implBelowOf (x : Int) (w : World) :
    Calls Tryd.prog 37 #[.int .i64 x] w fun e w' => e = .returned (.agg #[.bool (decide (x < 1048)), .bool (decide (x < 10485)), .bool (decide (x < 104857)), .bool (decide (x < 262144))]) ∧ Below w.heap.size w w' := by
  generalize hb0 : decide (x < 1048) = b0
  generalize hb1 : decide (x < 10485) = b1
  generalize hb2 : decide (x < 104857) = b2
  generalize hb3 : decide (x < 262144) = b3
  have X : Hid (Boxed (w.alloc (.cells #[.bool false, .bool false, .bool false, .bool false] 57)) w.heap.size #[.bool false, .bool false, .bool false, .bool false] 57) := Boxed.new _ _ _
  go_enter Tryd.func37, Tryd.ntmps37
  go_wp2_with (refine wpList_store_row rfl 57 (.tmp 2) (.tmp 11) rfl w.heap.size #[.bool b0, .bool b1, .bool b2, .bool b3] rfl rfl _ _ X.out (by kernel_rfl) rfl (bwOnes _ _ _ _) ?_)
  exact bodyPost_ret (results_cell_row Tryd.results37 _ _ w.heap.size _ _ _ _ rfl (setRow_heap _ w.heap.size _ _ _ _ X.out) Tryd.underlying57 rfl (by kernel_rfl)) rfl ⟨rfl, below_setRow ((Below.refl _ _).alloc (Nat.le_refl _) _) (Nat.le_refl _) _⟩
end Go.Proofs.YtemegnfefjcdaaaDoor

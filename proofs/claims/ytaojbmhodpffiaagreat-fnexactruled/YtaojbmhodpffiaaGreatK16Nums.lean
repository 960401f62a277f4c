/-
  Addresses within bounds, the model's way. By the verifier.
-/
import Derived.Test.YtaojbmhodpffiaaGreatK2NumIn
import Derived.Test.YtaojbmhodpffiaaGreatK15NumUp
namespace Go.Proofs.YtaojbmhodpffiaaGreat
open Go.RowKit

theorem specAddr (n : Int) (w : World) :
    Calls Tryz.prog 167 #[.int .i64 n] w fun e w' => e = .returned (.bool (inB 0 4294967295 n)) ∧ w' = w := by
  go_enter Tryz.func167, Tryz.ntmps167
  go_wp2_with (go_at_call 36; refine (specIn _ _ _ _).mono ?_; rintro e w' ⟨rfl, rfl⟩)
  go_ret
  exact ⟨rfl, rfl⟩
end Go.Proofs.YtaojbmhodpffiaaGreat

/-
  The walks of the model's purses. By the verifier.
-/
import Derived.Test.YtdnghdepiiimmaaPzSpecK
import Derived.Test.YtdnghdepiiimmaaNumIn
import Derived.Test.YtdnghdepiiimmaaNumMin
import Derived.Test.YtdnghdepiiimmaaBoxed
import Derived.Test.YtdnghdepiiimmaaStepRow
import Derived.Laws.ResultCell
import Derived.Laws.CopyOwn
import Derived.WalkKit
import Derived.WalkSpells
import Derived.WalkLawsBesides
import Derived.RegionTactic
namespace Go.Proofs.Ytdnghdepiiimmaa
open Go.RowKit

set_option maxHeartbeats 3200000 in
set_option maxRecDepth 100000 in
theorem specFillL (p : Pz) (now : Int) (w : World) (hok : p.ok = true) (hat : p.at' now = true) :
    Calls Try.prog 41 #[p.val, .int .i64 now] w fun e w' => e = .returned (p.fill now).val ∧ Below w.heap.size w w' := by
  have h := Pz.ok_iff.1 hok
  unfold Pz.at' at hat
  rw [inB_true] at hat
  have hm := mul_small (a := p.rate) (b := now - p.tm) h.1.1 h.1.2 (by omega) (by omega)
  obtain ⟨v0, v1, v2, v3⟩ := p
  simp only [Pz.val, Pz.fill] at h hat hm ⊢
  have k1 : IntKind.i64.wrap (now - v3) = now - v3 := by rw [IntKind.wrap_i64]; omega
  have k2 : IntKind.i64.wrap (v0 * (now - v3)) = v0 * (now - v3) := by rw [IntKind.wrap_i64]; omega
  have k3 : IntKind.i64.wrap (v2 + v0 * (now - v3)) = v2 + v0 * (now - v3) := by rw [IntKind.wrap_i64]; omega
  have A := fun w => specMin v1 (v2 + v0 * (now - v3)) w
  generalize min v1 (v2 + v0 * (now - v3)) = z at A ⊢
  have A' : Hid _ := A
  clear A h hat hm hok
  have H : Hid (Below w.heap.size w ((w.alloc (.cells #[.int .i64 v0, .int .i64 v1, .int .i64 z, .int .i64 now] 42)).alloc (.cells #[.int .i64 v0, .int .i64 v1, .int .i64 z, .int .i64 now] 42))) := ((Below.refl _ w).alloc (Nat.le_refl _) _).alloc (by simp) _
  go_enter Try.func41, Try.ntmps41
  go_wp2_with fail
  refine (A'.out _).mono ?_
  rintro e w' ⟨rfl, rfl⟩
  go_wp2
  exact bodyPost_ret (v := .agg #[.int .i64 v0, .int .i64 v1, .int .i64 z, .int .i64 now]) (by simp [results, Try.results41, go_sem]) rfl ⟨rfl, H.out⟩

end Go.Proofs.Ytdnghdepiiimmaa

/-
  The walks of the program's places: of a route, the twin, one bit less. By the verifier.
-/
import Derived.Test.YtilnjmpnhadidaaCpBits
import Derived.Test.YtilnjmpnhadidaaRtDrawR
namespace Go.Proofs.Ytilnjmpnhadidaa
open Go.RowKit

/-- A place as a value. -/
def pv (n b : Int) : Value := .agg #[.int .i64 n, .int .i64 b]
/-- A place's zero cells. -/
def zeroPl : Array Value := #[.int .i64 0, .int .i64 0]

theorem implLast {b : Int} {s : Nat} (hs : s ≤ 32) (hb : b = 32 - (s : Int)) (w : World) :
    Calls Try.prog 73 #[.int .i64 b] w fun e w' => e = .returned (.int .i64 (2 ^ s)) ∧ w' = w := by
  subst hb
  have p1 := pow_le32 hs
  have p0 := pow_pos' s
  have hsub : (32 : Int) - (32 - (s : Int)) = (s : Int) := by omega
  have hmin : min s 64 = s := by omega
  have hw : IntKind.i64.wrap ((2 : Int) ^ s) = 2 ^ s := by rw [IntKind.wrap_i64]; omega
  go_enter Try.func73, Try.ntmps73
  go_wp2
  go_ret
  exact ⟨by first | rfl | simp [hw] | skip, rfl⟩

theorem below_two {w : World} (o x : Obj) : Below w.heap.size w ((w.alloc o).alloc x) :=
  ((Below.refl _ w).alloc (Nat.le_refl _) _).alloc (by simp) _

theorem implPlace (r : Rt) (w : World) :
    Calls Try.prog 55 #[r.val] w fun e w' => e = .returned (pv r.net r.bits) ∧ Below w.heap.size w w' := by
  obtain ⟨n, b, h⟩ := r
  unfold Rt.val pv
  simp only []
  go_enter Try.func55, Try.ntmps55
  go_wp2
  refine bodyPost_ret (v := .agg #[.int .i64 n, .int .i64 b]) ?_ rfl ?_
  · simp [results, Try.results55, go_sem]
  · exact ⟨rfl, below_two _ _⟩

set_option maxHeartbeats 1600000 in
theorem implTwin {net b : Int} {s : Nat} (hs : s ≤ 32) (hb : b = 32 - (s : Int)) (n0 : 0 ≤ net) (n1 : net ≤ 4294967295) (hm : net % 2 ^ s = 0) (w : World) :
    Calls Try.prog 56 #[pv net b] w fun e w' => e = .returned (pv (twinV net s) b) ∧ Below w.heap.size w w' := by
  unfold pv
  have C := fun w => implLast hs hb w
  have hx := xor_last hs n0 n1 hm
  generalize (2 : Int) ^ s = P at C hx
  generalize twinV net s = t at hx ⊢
  clear hm hb
  go_enter Try.func56, Try.ntmps56
  go_wp2_with fail
  go_region_law (refine call_step rfl 73 rfl #[.int .i64 b] (by kernel_rfl) (C _) ?_; rintro e w4 ⟨rfl, rfl⟩; refine ⟨_, rfl, ?_⟩)
  all_goals
    go_wp2
    refine bodyPost_ret (v := .agg #[.int .i64 t, .int .i64 b]) ?_ rfl ?_
    · simp [results, Try.results56, go_sem]
    · exact ⟨rfl, (below_two _ _).drew⟩

set_option maxHeartbeats 1600000 in
theorem implUp {net : Int} (n0 : 0 ≤ net) (n1 : net ≤ 4294967295) {k : Nat} (hk : k < 32) (w : World) :
    Calls Try.prog 86 #[pv (cutV net (k + 1)) ((k : Int) + 1)] w fun e w' => e = .returned (pv (cutV net k) (k : Int)) ∧ Below w.heap.size w w' := by
  unfold pv
  have C := fun w => implLast (b := (k : Int) + 1) (s := 32 - (k + 1)) (by omega) (by omega) w
  have hx := cut_up n0 n1 hk
  generalize (2 : Int) ^ (32 - (k + 1)) = P at C hx
  generalize cutV net k = t at hx ⊢
  generalize cutV net (k + 1) = q at hx ⊢
  have hsub : (k : Int) + 1 - 1 = (k : Int) := by omega
  go_enter Try.func86, Try.ntmps86
  go_wp2_with fail
  go_region_law (refine call_step rfl 73 rfl #[.int .i64 ((k : Int) + 1)] (by kernel_rfl) (C _) ?_; rintro e w4 ⟨rfl, rfl⟩; refine ⟨_, rfl, ?_⟩)
  all_goals
    go_wp2
    refine bodyPost_ret (v := .agg #[.int .i64 t, .int .i64 (k : Int)]) ?_ rfl ?_
    · simp [results, Try.results86, go_sem]; rw [IntKind.wrap_i64]; omega
    · exact ⟨rfl, (below_two _ _).drew⟩
end Go.Proofs.Ytilnjmpnhadidaa

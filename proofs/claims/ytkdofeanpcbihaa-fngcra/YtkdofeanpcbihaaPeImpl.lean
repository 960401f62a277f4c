/-
  The walks of the program's paces: when one is right, and the methods of the two ways. By the verifier, by program.
-/
import Derived.Test.YtkdofeanpcbihaaPePlain
import Derived.Test.YtkdofeanpcbihaaPzImpl
import Derived.Test.YtkdofeanpcbihaaQuiet
import Derived.Stop.Asserts
import Derived.Handy
import Derived.BigQuiet
namespace Go.Proofs.Ytkdofeanpcbihaa
open Go.RowKit

set_option maxHeartbeats 1600000 in
theorem implPaceOk (p : Pe) (w : World) :
    Calls Try.prog 43 #[p.val] w fun e w' => e = .returned (.bool p.ok) ∧ Below w.heap.size w w' := by
  have Hok : Hid (p.ok = (inB 1 1000 p.gap && (inB 0 10000 p.slack && (inB 0 1099511627776 p.next && (inB 0 1099511627776 p.fill && inB 0 1099511627776 p.last))))) := rfl
  obtain ⟨v0, v1, v2, v3, v4⟩ := p
  generalize Pe.ok _ = ok at Hok ⊢
  simp only [Pe.val] at Hok ⊢
  have A1 := fun B w h => implFromOne 1000 v0 B w h
  have A2 := fun B w h => implUpTo1 10000 v1 w B h
  have A3 := fun w => implTime v2 w
  have A4 := fun w => implTime v3 w
  have A5 := fun w => implTime v4 w
  generalize inB 1 1000 v0 = b1 at A1 Hok
  generalize inB 0 10000 v1 = b2 at A2 Hok
  generalize inB 0 1099511627776 v2 = b3 at A3 Hok
  generalize inB 0 1099511627776 v3 = b4 at A4 Hok
  generalize inB 0 1099511627776 v4 = b5 at A5 Hok
  have A1' : Hid _ := A1
  have A2' : Hid _ := A2
  have A3' : Hid _ := A3
  have A4' : Hid _ := A4
  have A5' : Hid _ := A5
  clear A1 A2 A3 A4 A5
  go_enter Try.func43, Try.ntmps43
  go_wp2_with fail
  refine (A1'.out _ _ (by simp)).mono ?_
  rintro e w' ⟨rfl, rfl⟩
  cases b1
  · go_wp2
    go_ret
    exact ⟨ret_bool (by rw [Hok.out]; rfl), by repeat (first | exact Below.refl _ _ | refine Below.alloc ?_ (by simp <;> omega) _)⟩
  go_wp2_with fail
  refine (A2'.out _ _ (by simp)).mono ?_
  rintro e w' ⟨rfl, rfl⟩
  cases b2
  · go_wp2
    go_ret
    exact ⟨ret_bool (by rw [Hok.out]; rfl), by repeat (first | exact Below.refl _ _ | refine Below.alloc ?_ (by simp <;> omega) _)⟩
  go_wp2_with fail
  refine (A3'.out _).mono ?_
  rintro e w' ⟨rfl, rfl⟩
  cases b3
  · go_wp2
    go_ret
    exact ⟨ret_bool (by rw [Hok.out]; rfl), by repeat (first | exact Below.refl _ _ | refine Below.alloc ?_ (by simp <;> omega) _)⟩
  go_wp2_with fail
  refine (A4'.out _).mono ?_
  rintro e w' ⟨rfl, rfl⟩
  cases b4
  · go_wp2
    go_ret
    exact ⟨ret_bool (by rw [Hok.out]; rfl), by repeat (first | exact Below.refl _ _ | refine Below.alloc ?_ (by simp <;> omega) _)⟩
  go_wp2_with fail
  refine (A5'.out _).mono ?_
  rintro e w' ⟨rfl, rfl⟩
  go_wp2
  go_ret
  exact ⟨ret_bool (by rw [Hok.out]; rfl), by repeat (first | exact Below.refl _ _ | refine Below.alloc ?_ (by simp <;> omega) _)⟩

theorem implOwedN (p : Pe) (now : Int) (w : World) (k1 : IntKind.i64.wrap (p.next - now) = p.next - now) :
    Calls Try.prog 65 #[p.val, .int .i64 now] w fun e w' => e = .returned (.int .i64 (max 0 (p.next - now))) ∧ w' = w.alloc (.cells p.cells.toArray 47) := by
  obtain ⟨v0, v1, v2, v3, v4⟩ := p
  simp only [Pe.val, Pe.cells] at *
  go_enter Try.func65, Try.ntmps65
  go_wp2
  all_goals (
    go_ret
    exact ⟨ret_num (by omega), rfl⟩)

theorem implNextN (p : Pe) (now : Int) (w : World) (k1 : IntKind.i64.wrap (max p.next now + p.gap) = max p.next now + p.gap) :
    Calls Try.prog 64 #[p.val, .int .i64 now] w fun e w' => e = .returned (.int .i64 (max p.next now + p.gap)) ∧ w' = w.alloc (.cells p.cells.toArray 47) := by
  obtain ⟨v0, v1, v2, v3, v4⟩ := p
  simp only [Pe.val, Pe.cells] at *
  by_cases h : v2 < now
  · have e : max v2 now = now := by omega
    rw [e] at k1 ⊢
    clear e
    go_enter Try.func64, Try.ntmps64
    go_wp2
    go_ret
    exact ⟨ret_num (by first | rfl | simp [k1] | omega), rfl⟩
  · have e : max v2 now = v2 := by omega
    rw [e] at k1 ⊢
    clear e
    go_enter Try.func64, Try.ntmps64
    go_wp2
    go_ret
    exact ⟨ret_num (by first | rfl | simp [k1] | omega), rfl⟩

theorem implOwedF (p : Pe) (now : Int) (w : World) (k1 : IntKind.i64.wrap (now - p.last) = now - p.last) (k2 : IntKind.i64.wrap (p.fill - (now - p.last)) = p.fill - (now - p.last)) :
    Calls Try.prog 67 #[p.val, .int .i64 now] w fun e w' => e = .returned (.int .i64 (p.left now)) ∧ w' = w.alloc (.cells p.cells.toArray 48) := by
  obtain ⟨v0, v1, v2, v3, v4⟩ := p
  simp only [Pe.val, Pe.cells, Pe.left] at *
  go_enter Try.func67, Try.ntmps67
  go_wp2
  all_goals (
    go_ret
    exact ⟨ret_num (by omega), rfl⟩)

set_option maxHeartbeats 3200000 in
set_option maxRecDepth 100000 in
theorem implPassN (p : Pe) (now : Int) (w : World) (k1 : IntKind.i64.wrap (max p.next now + p.gap) = max p.next now + p.gap) :
    Calls Try.prog 66 #[p.val, .int .i64 now] w fun e w' => e = .returned (Pe.val ⟨p.gap, p.slack, max p.next now + p.gap, p.fill, p.last⟩) ∧ Below w.heap.size w w' := by
  have A1 := fun w => implNextN p now w k1
  generalize max p.next now + p.gap = z at *
  obtain ⟨v0, v1, v2, v3, v4⟩ := p
  simp only [Pe.val, Pe.cells] at *
  have A1' : Hid _ := A1
  clear A1
  clear k1
  have H : Hid (Below w.heap.size w (((w.alloc (.cells #[.int .i64 v0, .int .i64 v1, .int .i64 z, .int .i64 v3, .int .i64 v4] 47)).alloc (.cells #[.int .i64 v0, .int .i64 v1, .int .i64 z, .int .i64 v3, .int .i64 v4] 25)).alloc (.cells #[.int .i64 v0, .int .i64 v1, .int .i64 v2, .int .i64 v3, .int .i64 v4] 47))) := (((Below.refl _ w).alloc (Nat.le_refl _) _).alloc (by simp) _).alloc (by simp; omega) _
  go_enter Try.func66, Try.ntmps66
  go_wp2_with fail
  refine (A1'.out _).mono ?_
  rintro e w' ⟨rfl, rfl⟩
  go_wp2
  exact bodyPost_ret (v := .agg #[.int .i64 v0, .int .i64 v1, .int .i64 z, .int .i64 v3, .int .i64 v4]) (by simp [results, Try.results66, go_sem]) rfl ⟨rfl, H.out⟩

set_option maxHeartbeats 3200000 in
set_option maxRecDepth 100000 in
theorem implPassF (p : Pe) (now : Int) (w : World) (k1 : IntKind.i64.wrap (now - p.last) = now - p.last) (k2 : IntKind.i64.wrap (p.fill - (now - p.last)) = p.fill - (now - p.last)) (k3 : IntKind.i64.wrap (p.left now + p.gap) = p.left now + p.gap) :
    Calls Try.prog 68 #[p.val, .int .i64 now] w fun e w' => e = .returned (Pe.val ⟨p.gap, p.slack, p.next, p.left now + p.gap, now⟩) ∧ Below w.heap.size w w' := by
  have A1 := fun w => implOwedF p now w k1 k2
  generalize p.left now = z at *
  obtain ⟨v0, v1, v2, v3, v4⟩ := p
  simp only [Pe.val, Pe.cells] at *
  have A1' : Hid _ := A1
  clear A1
  clear k1 k2
  go_enter Try.func68, Try.ntmps68
  go_wp2
  go_region_with (go_at_call 67; refine (A1'.out _).mono ?_; rintro e w' ⟨rfl, rfl⟩)
  all_goals go_wp2
  all_goals exact bodyPost_ret (v := .agg #[.int .i64 v0, .int .i64 v1, .int .i64 v2, .int .i64 (z + v0), .int .i64 now]) (by simp [results, Try.results68, go_sem]) rfl ⟨rfl, by repeat (first | exact Below.refl _ _ | refine Below.drew ?_ | refine Below.alloc ?_ (by simp <;> omega) _)⟩

end Go.Proofs.Ytkdofeanpcbihaa

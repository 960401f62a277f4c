/-
  The walk of the model's ClassOf. By the verifier.
-/
import Derived.Test.YtdifegaokdoleaaRuClass
namespace Go.Proofs.Ytdifegaokdoleaa
open Go.RowKit

set_option maxHeartbeats 3200000 in
set_option maxRecDepth 100000 in
theorem specClassOf (a0 : Option Addr) (cap : Nat) (l : List Ru) (f : Fr) (af : Option Addr) (cf : Nat) (w : World) (hL : l.length ≤ 1048576) (hT : f.tags.length ≤ 1048576) (h : Hid (RusAt w a0 l)) (hc : Hid (IntsAt w af f.tags)) :
    Calls Try.prog 10 #[.slice a0 l.length cap, f.val af cf] w fun e w' => e = .returned (.int .i64 (classV l f)) ∧ Below w.heap.size w w' := by
  have Hv : Hid (classV l f = if rusOk l = true ∧ f.ok = true then classL l f else -1) := rfl
  have A1 := fun w h => specRules a0 cap l w hL h
  have A2 := fun w h => specFrameOk f af cf w hT h
  have A3 := fun h1 h2 w h => specClass a0 cap l f af cf w h1 h2 h
  generalize rusOk l = o1 at A1 A3 Hv
  generalize f.ok = o2 at A2 A3 Hv
  generalize classL l f = cl at A3 Hv
  generalize classV l f = res at Hv ⊢
  obtain ⟨f0, g1, ft, fs, fd, fp, sp, dp, mk, sm, fb⟩ := f
  simp only [Fr.val] at A2 A3 hc hT ⊢
  generalize ft.length = nf at A2 A3 ⊢
  generalize l.length = len at A1 A3 ⊢
  have A1' : Hid _ := A1
  have A2' : Hid _ := A2
  have A3' : Hid _ := A3
  clear A1 A2 A3 hT hL
  have B1 : Hid (Below w.heap.size w (w.alloc (.cells #[.int .i64 f0, .int .i64 g1, .slice af nf cf, .int .i64 fs, .int .i64 fd, .int .i64 fp, .int .i64 sp, .int .i64 dp, .int .i64 mk, .int .i64 sm, .string fb] 27)) ∧ Boxed (w.alloc (.cells #[.int .i64 f0, .int .i64 g1, .slice af nf cf, .int .i64 fs, .int .i64 fd, .int .i64 fp, .int .i64 sp, .int .i64 dp, .int .i64 mk, .int .i64 sm, .string fb] 27)) w.heap.size #[.int .i64 f0, .int .i64 g1, .slice af nf cf, .int .i64 fs, .int .i64 fd, .int .i64 fp, .int .i64 sp, .int .i64 dp, .int .i64 mk, .int .i64 sm, .string fb] 27) := ⟨(Below.refl _ w).alloc (Nat.le_refl _) _, Boxed.new _ _ _⟩
  go_enter Try.func10, Try.ntmps10
  go_wp2_with fail
  refine (A1'.out _ (h.out.below B1.out.1)).mono ?_
  rintro e w2 ⟨rfl, b2⟩
  have H2 : Hid (Below w.heap.size w w2 ∧ Boxed w2 w.heap.size #[.int .i64 f0, .int .i64 g1, .slice af nf cf, .int .i64 fs, .int .i64 fd, .int .i64 fp, .int .i64 sp, .int .i64 dp, .int .i64 mk, .int .i64 sm, .string fb] 27) := ⟨B1.out.1.trans (b2.mono B1.out.1.size), B1.out.2.below B1.out.2.under b2⟩
  clear b2 B1
  cases o1
  · have e : Hid (res = -1) := by show res = -1; rw [Hv.out, if_neg (by simp)]
    go_wp2
    go_ret
    exact ⟨by rw [e.out]; rfl, H2.out.1⟩
  have d0 : w2.cell? ⟨w.heap.size, 0, none⟩ = some (.int .i64 f0) := H2.out.2.cell 0 rfl
  have d1 : w2.cell? ⟨w.heap.size, 1, none⟩ = some (.int .i64 g1) := H2.out.2.cell 1 rfl
  have d2 : w2.cell? ⟨w.heap.size, 2, none⟩ = some (.slice af nf cf) := H2.out.2.cell 2 rfl
  have d3 : w2.cell? ⟨w.heap.size, 3, none⟩ = some (.int .i64 fs) := H2.out.2.cell 3 rfl
  have d4 : w2.cell? ⟨w.heap.size, 4, none⟩ = some (.int .i64 fd) := H2.out.2.cell 4 rfl
  have d5 : w2.cell? ⟨w.heap.size, 5, none⟩ = some (.int .i64 fp) := H2.out.2.cell 5 rfl
  have d6 : w2.cell? ⟨w.heap.size, 6, none⟩ = some (.int .i64 sp) := H2.out.2.cell 6 rfl
  have d7 : w2.cell? ⟨w.heap.size, 7, none⟩ = some (.int .i64 dp) := H2.out.2.cell 7 rfl
  have d8 : w2.cell? ⟨w.heap.size, 8, none⟩ = some (.int .i64 mk) := H2.out.2.cell 8 rfl
  have d9 : w2.cell? ⟨w.heap.size, 9, none⟩ = some (.int .i64 sm) := H2.out.2.cell 9 rfl
  have d10 : w2.cell? ⟨w.heap.size, 10, none⟩ = some (.string fb) := H2.out.2.cell 10 rfl
  go_wp2_with fail
  refine (A2'.out _ (hc.out.below H2.out.1)).mono ?_
  rintro e w3 ⟨rfl, b3⟩
  have H3 : Hid (Below w.heap.size w w3 ∧ Boxed w3 w.heap.size #[.int .i64 f0, .int .i64 g1, .slice af nf cf, .int .i64 fs, .int .i64 fd, .int .i64 fp, .int .i64 sp, .int .i64 dp, .int .i64 mk, .int .i64 sm, .string fb] 27) := ⟨H2.out.1.trans (b3.mono H2.out.1.size), H2.out.2.below H2.out.2.under b3⟩
  clear b3 H2 d0 d1 d2 d3 d4 d5 d6 d7 d8 d9 d10
  cases o2
  · have e : Hid (res = -1) := by show res = -1; rw [Hv.out, if_neg (by simp)]
    go_wp2
    go_ret
    exact ⟨by rw [e.out]; rfl, H3.out.1⟩
  have e : Hid (res = cl) := by show res = cl; rw [Hv.out, if_pos (by simp)]
  have d0 : w3.cell? ⟨w.heap.size, 0, none⟩ = some (.int .i64 f0) := H3.out.2.cell 0 rfl
  have d1 : w3.cell? ⟨w.heap.size, 1, none⟩ = some (.int .i64 g1) := H3.out.2.cell 1 rfl
  have d2 : w3.cell? ⟨w.heap.size, 2, none⟩ = some (.slice af nf cf) := H3.out.2.cell 2 rfl
  have d3 : w3.cell? ⟨w.heap.size, 3, none⟩ = some (.int .i64 fs) := H3.out.2.cell 3 rfl
  have d4 : w3.cell? ⟨w.heap.size, 4, none⟩ = some (.int .i64 fd) := H3.out.2.cell 4 rfl
  have d5 : w3.cell? ⟨w.heap.size, 5, none⟩ = some (.int .i64 fp) := H3.out.2.cell 5 rfl
  have d6 : w3.cell? ⟨w.heap.size, 6, none⟩ = some (.int .i64 sp) := H3.out.2.cell 6 rfl
  have d7 : w3.cell? ⟨w.heap.size, 7, none⟩ = some (.int .i64 dp) := H3.out.2.cell 7 rfl
  have d8 : w3.cell? ⟨w.heap.size, 8, none⟩ = some (.int .i64 mk) := H3.out.2.cell 8 rfl
  have d9 : w3.cell? ⟨w.heap.size, 9, none⟩ = some (.int .i64 sm) := H3.out.2.cell 9 rfl
  have d10 : w3.cell? ⟨w.heap.size, 10, none⟩ = some (.string fb) := H3.out.2.cell 10 rfl
  go_wp2_with fail
  refine (A3'.out (by first | exact trivial | exact rfl) (by first | exact trivial | exact rfl) _ (h.out.below H3.out.1)).mono ?_
  rintro e' w4 ⟨rfl, b4⟩
  have H4 : Hid (Below w.heap.size w w4) := H3.out.1.trans (b4.mono H3.out.1.size)
  clear b4 H3 d0 d1 d2 d3 d4 d5 d6 d7 d8 d9 d10
  go_wp2
  go_ret
  exact ⟨by rw [e.out]; rfl, H4.out⟩
end Go.Proofs.Ytdifegaokdoleaa

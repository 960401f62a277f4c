import Derived.RowKit3
import Derived.Below
import Derived.WalkKit
import Derived.Laws.Rows
import Derived.Laws.Tables
import Derived.Test.YtfdapmchpikfiaaM0PzPlain
import Derived.Test.YtfdapmchpikfiaaM1LikeHas
import Derived.Test.YtfdapmchpikfiaaStepRow
import Derived.Laws.ResultCell
import Derived.Laws.CopyOwn
import Derived.WalkSpells
import Derived.WalkLawsBesides
import Derived.RegionTactic
/-
  A struct's block as one fact: a field put, all fields put. By the verifier.
-/
namespace Go.Proofs.Ytfdapmchpikfiaa
open Go.RowKit

/-- A block that holds these cells. -/
def Boxed (w : World) (B : Nat) (cs : Array Value) (t : TypeId) : Prop := w.heap[B]? = some (.cells cs t)
theorem Boxed.cell {w : World} {B : Nat} {cs : Array Value} {t : TypeId} (h : Boxed w B cs t) (j : Nat) {v : Value} (hj : cs[j]? = some v) : w.cell? ⟨B, j, none⟩ = some v := by
  unfold Boxed at h
  simp [World.cell?, h, hj]
theorem Boxed.below {w w' : World} {B : Nat} {cs : Array Value} {t : TypeId} (h : Boxed w B cs t) {b : Nat} (hb : B < b) (g : Below b w w') : Boxed w' B cs t := by
  unfold Boxed; rw [g.block B hb]; exact h
theorem Boxed.new (w : World) (cs : Array Value) (t : TypeId) : Boxed (w.alloc (.cells cs t)) w.heap.size cs t := by show (w.heap.push _)[w.heap.size]? = _; simp
theorem heapLt {w : World} {k : Nat} {o : Obj} (h : w.heap[k]? = some o) : k < w.heap.size := (Array.getElem?_eq_some_iff.1 h).1
theorem Boxed.under {w : World} {k : Nat} {cs : Array Value} {t : TypeId} (x : Boxed w k cs t) : k < w.heap.size := heapLt x
theorem Boxed.put {w : World} {k : Nat} {cs : Array Value} {t : TypeId} (x : Boxed w k cs t) (j : Nat) (v : Value) : Boxed (w.setCell ⟨k, j, none⟩ v) k (cs.setIfInBounds j v) t := by
  unfold Boxed at *
  simp only [World.setCell, Array.getElem?_modify, if_true, x, Option.map_some]
  rfl
theorem Boxed.far {w : World} {k b : Nat} {cs : Array Value} {t : TypeId} (x : Boxed w k cs t) (h : k ≠ b) (j : Nat) (v : Value) : Boxed (w.setCell ⟨b, j, none⟩ v) k cs t := by
  unfold Boxed at *
  rw [Below.heap_setCell _ _ _ _ h]; exact x
theorem Boxed.ice {w : World} {B : Nat} {cs : Array Value} {t : TypeId} (h : Boxed w B cs t) (j : Nat) : w.frozen? ⟨B, j, none⟩ = false := by
  unfold Boxed at h
  simp [World.frozen?, h]
theorem Boxed.more {w : World} {B : Nat} {cs : Array Value} {t : TypeId} (h : Boxed w B cs t) (o : Obj) : Boxed (w.alloc o) B cs t := by
  unfold Boxed at *
  rw [Below.heap_alloc _ _ _ (heapLt h)]; exact h
theorem bel_two {B n : Nat} {W w w' : World} (b : Below B W w) (b' : Below B W w') (hs : w.heap.size ≤ w'.heap.size) (hk : ∀ k, k < n → w'.heap[k]? = w.heap[k]?) : Below n w w' :=
  ⟨b'.os.trans b.os.symm, b'.tape.trans b.tape.symm, b'.output.trans b.output.symm, hs, hk⟩
end Go.Proofs.Ytfdapmchpikfiaa

/-
  The walks of the model's purses. By the verifier.
-/
namespace Go.Proofs.Ytfdapmchpikfiaa
open Go.RowKit

theorem specTm (t : Int) (w : World) :
    Calls Try.prog 59 #[.int .i64 t] w fun e w' => e = .returned (.bool (inB 0 1099511627776 t)) ∧ w' = w := by
  go_enter Try.func59, Try.ntmps59
  go_wp2_with (go_at_call 50; refine (specIn _ _ _ _).mono ?_; rintro e w' ⟨rfl, rfl⟩)
  go_ret
  exact ⟨rfl, rfl⟩
set_option maxHeartbeats 1600000 in
theorem specPurseOk (p : Pz) (w : World) :
    Calls Try.prog 46 #[p.val] w fun e w' => e = .returned (.bool p.ok) ∧ w' = w.alloc (.cells p.cells.toArray 38) := by
  have Hok : Hid (p.ok = (inB 0 1000 p.rate && (inB 1 100000 p.burst && (inB 0 p.burst p.level && inB 0 1099511627776 p.tm)))) := rfl
  obtain ⟨v0, v1, v2, v3⟩ := p
  generalize Pz.ok _ = ok at Hok ⊢
  simp only [Pz.val, Pz.cells] at Hok ⊢
  have A1 := fun w => specIn v0 0 1000 w
  have A2 := fun w => specIn v1 1 100000 w
  have A3 := fun w => specIn v2 0 v1 w
  have A4 := fun w => specTm v3 w
  generalize inB 0 1000 v0 = b1 at A1 Hok
  generalize inB 1 100000 v1 = b2 at A2 Hok
  generalize inB 0 v1 v2 = b3 at A3 Hok
  generalize inB 0 1099511627776 v3 = b4 at A4 Hok
  have A1' : Hid _ := A1
  have A2' : Hid _ := A2
  have A3' : Hid _ := A3
  have A4' : Hid _ := A4
  clear A1 A2 A3 A4
  go_enter Try.func46, Try.ntmps46
  go_wp2_with fail
  refine (A1'.out _).mono ?_
  rintro e w' ⟨rfl, rfl⟩
  cases b1
  · go_wp2
    go_ret
    exact ⟨ret_bool (by rw [Hok.out]; rfl), rfl⟩
  go_wp2_with fail
  refine (A2'.out _).mono ?_
  rintro e w' ⟨rfl, rfl⟩
  cases b2
  · go_wp2
    go_ret
    exact ⟨ret_bool (by rw [Hok.out]; rfl), rfl⟩
  go_wp2_with fail
  refine (A3'.out _).mono ?_
  rintro e w' ⟨rfl, rfl⟩
  cases b3
  · go_wp2
    go_ret
    exact ⟨ret_bool (by rw [Hok.out]; rfl), rfl⟩
  go_wp2_with fail
  refine (A4'.out _).mono ?_
  rintro e w' ⟨rfl, rfl⟩
  go_wp2
  go_ret
  exact ⟨ret_bool (by rw [Hok.out]; rfl), rfl⟩
theorem specPurseOkB (p : Pz) (w : World) :
    Calls Try.prog 46 #[p.val] w fun e w' => e = .returned (.bool p.ok) ∧ Below w.heap.size w w' :=
  (specPurseOk p w).mono fun _ _ h => ⟨h.1, by rw [h.2]; exact (Below.refl _ _).alloc (Nat.le_refl _) _⟩

end Go.Proofs.Ytfdapmchpikfiaa

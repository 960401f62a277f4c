/-
  The walks of the program's dues that only read: which are right, which is ahead in a heap, which lists are heaps, which rise, which is there. By the verifier.
-/
import Derived.Test.YtgimalimfmoilaaDuFn
import Derived.Test.YtgimalimfmoilaaDuFnI
import Derived.Test.YtgimalimfmoilaaDuCmp
import Derived.Test.YtgimalimfmoilaaM5OneN
import Derived.Test.YtgimalimfmoilaaQuiet
import Derived.BigQuiet
import Derived.WalkKit
import Derived.WalkSpells
import Derived.WalkLawsBesides
import Derived.RegionTactic
import Derived.Deep.RegionLaw
import Derived.Deep.CutRange
namespace Go.Proofs.Ytgimalimfmoilaa
open Go.RowKit Go.Shelf

theorem implDuTime (t : Int) (w : World) :
    Calls Try.prog 68 #[.int .i64 t] w fun e w' => e = .returned (.bool (inB 0 1099511627776 t)) ∧ w' = w.alloc (.cells #[.int .i64 t] 2) := by
  have A1 := fun B w h => implUpTo1 1099511627776 t w B h
  generalize inB 0 1099511627776 t = b at A1 ⊢
  have A1' : Hid _ := A1
  clear A1
  go_enter Try.func68, Try.ntmps68
  go_wp2_with fail
  refine (A1'.out _ _ (by simp)).mono ?_
  rintro e w' ⟨rfl, rfl⟩
  go_wp2
  go_ret
  exact ⟨rfl, rfl⟩
set_option maxHeartbeats 1600000 in
theorem implDueOk (d : Du) (w : World) :
    Calls Try.prog 42 #[d.val] w fun e w' => e = .returned (.bool d.ok) ∧ Below w.heap.size w w' := by
  have Hok : Hid (d.ok = (inB 0 1099511627776 d.time && inB 1 1000000 d.id)) := rfl
  obtain ⟨t, i⟩ := d
  generalize Du.ok _ = ok at Hok ⊢
  simp only [Du.val] at Hok ⊢
  have A1 := fun w => implDuTime t w
  have A2 := fun B w h => implFromOne 1000000 i B w h
  generalize inB 0 1099511627776 t = b1 at A1 Hok
  generalize inB 1 1000000 i = b2 at A2 Hok
  have A1' : Hid _ := A1
  have A2' : Hid _ := A2
  clear A1 A2
  go_enter Try.func42, Try.ntmps42
  go_wp2_with fail
  refine (A1'.out _).mono ?_
  rintro e w' ⟨rfl, rfl⟩
  cases b1
  · go_wp2
    go_ret
    exact ⟨ret_bool (by rw [Hok.out]; rfl), ((Below.refl _ _).alloc (Nat.le_refl _) _).alloc (by simp) _⟩
  go_wp2_with fail
  refine (A2'.out _ _ (by simp)).mono ?_
  rintro e w' ⟨rfl, rfl⟩
  go_wp2
  go_ret
  exact ⟨ret_bool (by rw [Hok.out]; rfl), (((Below.refl _ _).alloc (Nat.le_refl _) _).alloc (by simp) _).alloc (by simp; omega) _⟩
set_option maxHeartbeats 1600000 in
theorem implNotDu (r : Du) (w : World) :
    Calls Try.prog 65 #[r.val] w fun e w' => e = .returned (.bool (!r.ok)) ∧ Below w.heap.size w w' := by
  have C := fun w => implDueOk r w
  generalize r.ok = ok at C ⊢
  obtain ⟨i, p⟩ := r
  simp only [Du.val] at C ⊢
  have C' : Hid _ := C
  clear C
  have hB : Hid (Below w.heap.size w (w.alloc (.cells #[.int .i64 i, .int .i64 p] 33))) := (Below.refl _ _).alloc (Nat.le_refl _) _
  go_enter Try.func65, Try.ntmps65
  go_wp2_with fail
  refine (C'.out _).mono ?_
  rintro e w1 ⟨rfl, b1⟩
  have B : Hid (Below w.heap.size w w1) := hB.out.trans (b1.mono hB.out.size)
  clear b1 hB
  go_wp2
  go_ret
  exact ⟨rfl, B.out⟩
theorem notDuTells (w : World) : DuTells w (fun _ => False) 65 #[] #[] (fun _ => True) (fun r => !r.ok) :=
  ⟨enters_of Try.func65 (by kernel_rfl) rfl, fun _ h => h.elim, fun W r _ _ => implNotDu r W⟩
set_option maxHeartbeats 1600000 in
theorem implEachDu (a : Option Addr) (cap : Nat) (l : List Du) (w : World) (hT : l.length ≤ 1048576) (h : Hid (DusAt w a l)) :
    Calls Try.prog 36 #[.slice a l.length cap] w fun e w' => e = .returned (.bool (l.all Du.ok)) ∧ Below w.heap.size w w' := by
  have C := fun (_ : Nat) => implContainsD a cap l 65 #[] #[] (fun _ => False) (fun _ => True) (fun r => !r.ok) w hT h (fun _ _ => trivial) (notDuTells w)
  have Ha : Hid ((!(l.any fun r => !r.ok)) = l.all Du.ok) := by
    show _ = _
    rw [List.all_eq_not_any_not]
  generalize l.all Du.ok = z at Ha ⊢
  generalize (l.any fun r => !r.ok) = y at C Ha
  generalize l.length = n at C ⊢
  have C' : Hid _ := C
  clear C h hT
  go_enter Try.func36, Try.ntmps36
  go_wp2_with fail
  refine (C'.out 0).mono ?_
  rintro e w1 ⟨rfl, b1⟩
  have B : Hid _ := b1
  clear b1
  go_wp2
  go_ret
  exact ⟨ret_bool (by rw [← Ha.out]), B.out⟩

set_option maxHeartbeats 1600000 in
set_option maxRecDepth 100000 in
theorem implLess (a : Option Addr) (cap : Nat) (l : List Du) (i j : Nat) (w : World) (hi : i < l.length) (hj : j < l.length) (h : Hid (DusAt w a l)) :
    Calls Try.prog 66 #[.slice a l.length cap, .int .i64 (i : Int), .int .i64 (j : Int)] w fun e w' => e = .returned (.bool (decide ((duAt l i).lt (duAt l j)))) ∧ Below w.heap.size w w' := by
  have O := fun w => implOrder (duAt l i) (duAt l j) w
  have Hd : Hid (decide ((duAt l i).lt (duAt l j)) = decide (duOrdV (duAt l i) (duAt l j) < 0)) := by
    show _ = _
    rw [decide_eq_decide]
    exact (duOrd_lt _ _).symm
  rw [Hd.out]
  clear Hd
  obtain ⟨b1, o1, ha1, hb1, -⟩ := h.out i hi
  subst ha1
  have g0 := fun p : BelW w.heap.size w => ((h.out.below p.h).cells hi).1
  have g1 := fun p : BelW w.heap.size w => ((h.out.below p.h).cells hi).2
  have f0 := fun p : BelW w.heap.size w => ((h.out.below p.h).cells hj).1
  have f1 := fun p : BelW w.heap.size w => ((h.out.below p.h).cells hj).2
  generalize duOrdV (duAt l i) (duAt l j) = z at O ⊢
  unfold Du.val at O
  generalize duAt l i = x at g0 g1 O
  generalize duAt l j = y at f0 f1 O
  have hi' : (i : Int) < (l.length : Int) := by omega
  have hj' : (j : Int) < (l.length : Int) := by omega
  generalize l.length = n at hi' hj' ⊢
  clear h hi hj
  haveI : Nonempty (BelW w.heap.size w) := ⟨⟨w, Below.refl _ _⟩⟩
  go_enter Try.func66, Try.ntmps66
  go_upto_region 1 with fail
  refine region_below w.heap.size (by kernel_rfl) (by kernel_rfl) ?_
  repeat (go_big_quiet_step ((go_at_call 81; refine quiet_below (Nat.le_refl _) (O _))))
  refine wpQuiet_nil ?_
  intro wq hx
  have hq : Hid (Below w.heap.size w wq) := BelW.out hx
  clear hx f0 f1 g0 g1 O
  go_wp2
  go_ret
  exact ⟨rfl, hq.out⟩

/-- Is none of the first n ahead of the one above it? -/
def heapK (l : List Du) (n : Nat) : Bool := (List.range n).all fun j => !(decide (0 < j) && decide ((duAt l j).lt (duAt l ((j - 1) / 2))))
theorem heapK_succ (l : List Du) (n : Nat) : heapK l (n + 1) = (heapK l n && !(decide (0 < n) && decide ((duAt l n).lt (duAt l ((n - 1) / 2))))) := by
  unfold heapK
  rw [List.range_succ, List.all_append]
  simp
theorem heapK_hit {l : List Du} {n m : Nat} (h : n < m) (g : (decide (0 < n) && decide ((duAt l n).lt (duAt l ((n - 1) / 2)))) = true) : heapK l m = false := by
  unfold heapK
  rw [List.all_eq_false]
  refine ⟨n, List.mem_range.2 h, ?_⟩
  rw [g]
  exact Bool.false_ne_true
theorem heapK_is (l : List Du) : heapK l l.length = true ↔ HpO l := by
  unfold heapK HpO
  rw [List.all_eq_true]
  constructor
  · intro h j j0 hj q
    have := h j (List.mem_range.2 hj)
    simp [j0, q] at this
  · intro h j hj
    have hj := List.mem_range.1 hj
    by_cases j0 : 0 < j
    · simp [h j j0 hj]
    · simp [j0]

end Go.Proofs.Ytgimalimfmoilaa

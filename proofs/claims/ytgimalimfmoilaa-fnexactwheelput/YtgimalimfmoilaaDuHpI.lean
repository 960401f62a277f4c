/-
  The walks of the program's dues that only read: which are right, which is ahead in a heap, which lists are heaps, which rise, which is there. By the verifier.
-/
import Derived.Test.YtgimalimfmoilaaDuFn
import Derived.Test.YtgimalimfmoilaaM10DuOkI
import Derived.Test.YtgimalimfmoilaaM9DuCmp
import Derived.Test.YtgimalimfmoilaaQuiet
import Derived.BigQuiet
import Derived.WalkKit
import Derived.WalkSpells
import Derived.WalkLawsBesides
import Derived.RegionTactic
import Derived.Deep.RegionLaw
import Derived.Deep.CutRange
namespace Go.Proofs.Ytgimalimfmoilaa
open Go.RowKit Go.Shelf

set_option maxHeartbeats 1600000 in
set_option maxRecDepth 100000 in
theorem implIsHeap (a : Option Addr) (cap : Nat) (l : List Du) (w : World) (hT : l.length ≤ 1048576) (h : Hid (DusAt w a l)) :
    Calls Try.prog 37 #[.slice a l.length cap] w fun e w' => e = .returned (.bool (heapK l l.length)) ∧ Below w.heap.size w w' := by
  have L := fun (i j : Nat) (w : World) (hi : i < l.length) (hj : j < l.length) (hh : DusAt w a l) => implLess a cap l i j w hi hj hh
  have K0 : Hid (heapK l 1 = true) := by show heapK l 1 = true; unfold heapK; simp
  have Z : Hid (l.length = 0 → heapK l 0 = true) := fun _ => rfl
  have Hit : Hid (∀ n, 0 < n → n < l.length → decide ((duAt l n).lt (duAt l ((n - 1) / 2))) = true → heapK l l.length = false) := fun n n0 hn q => heapK_hit hn (by simp only [Bool.and_eq_true, decide_eq_true_eq]; exact ⟨n0, of_decide_eq_true q⟩)
  have Suc : Hid (∀ n, 0 < n → heapK l n = true → decide ((duAt l n).lt (duAt l ((n - 1) / 2))) = false → heapK l (n + 1) = true) := fun n n0 h1 h2 => by rw [heapK_succ, h1, h2]; simp
  obtain ⟨len, hlen⟩ : ∃ n, l.length = n := ⟨_, rfl⟩
  rw [hlen] at hT L Z Hit ⊢
  clear hlen
  have L' : Hid _ := L
  clear L
  go_enter Try.func37, Try.ntmps37
  go_wp2
  go_loopw [3] (fun i wr => ∃ k : Nat, 0 < k ∧ (k ≤ len ∨ k = 1) ∧ i = .int .i64 k ∧ Hid (heapK l k = true ∧ Below w.heap.size w wr)) (fun i _ => len - (intOf i).toNat)
  case atStart => exact ⟨1, by omega, .inr rfl, rfl, K0.out, Below.refl _ _⟩
  case round =>
    obtain ⟨k, hk0, hk, rfl, HK⟩ := hrel
    by_cases hlt : k < len
    · have hp : (k - 1) / 2 < len := by omega
      have C := L'.out k ((k - 1) / 2) wr hlt hp (h.out.below HK.out.2)
      have hw1 : ((k : Int) - 1).tdiv 2 = (((k - 1) / 2 : Nat) : Int) := by
        rw [show ((k : Int) - 1) = ((k - 1 : Nat) : Int) by omega]
        rfl
      have hlt' : (k : Int) < (len : Int) := by omega
      have S1 := Suc.out k hk0 HK.out.1
      have S2 := Hit.out k hk0 hlt
      have hk1 : (1 : Int) ≤ (k : Int) := by omega
      generalize decide ((duAt l k).lt (duAt l ((k - 1) / 2))) = z at C S1 S2
      generalize (k - 1) / 2 = m at C hw1 hp
      have S1' : Hid _ := S1
      have S2' : Hid _ := S2
      clear S1 S2
      go_wp2_with fail
      refine C.mono ?_
      rintro e w1 ⟨rfl, b1⟩
      have B : Hid (Below w.heap.size w w1) := HK.out.2.trans (b1.mono HK.out.2.size)
      clear b1 C
      cases z
      · go_wp2
        go_roundw
        case rel => exact ⟨k + 1, by omega, .inl (by omega), by go_num, S1'.out (by first | exact trivial | exact rfl), B.out⟩
        case measure => simp [intOf]; omega
      · go_wp2
        go_ret
        exact ⟨ret_bool (by rw [S2'.out (by first | exact trivial | exact rfl)]), B.out⟩
    · have e : heapK l len = true := by
        rcases hk with hk | rfl
        · obtain rfl : k = len := by omega
          exact HK.out.1
        · by_cases h0 : len = 0
          · rw [h0]; exact Z.out h0
          · obtain rfl : len = 1 := by omega
            exact HK.out.1
      have E : Hid _ := e
      clear e
      go_wp2
      go_ret
      exact ⟨ret_bool E.out.symm, HK.out.2⟩

/-- Does each of the first n come behind the one ahead of it? -/
def riseK (l : List Du) (n : Nat) : Bool := (List.range n).all fun j => !(decide (0 < j) && !decide ((duAt l (j - 1)).lt (duAt l j)))
theorem riseK_succ (l : List Du) (n : Nat) : riseK l (n + 1) = (riseK l n && !(decide (0 < n) && !decide ((duAt l (n - 1)).lt (duAt l n)))) := by
  unfold riseK
  rw [List.range_succ, List.all_append]
  simp
theorem riseK_hit {l : List Du} {n m : Nat} (h : n < m) (n0 : 0 < n) (g : decide ((duAt l (n - 1)).lt (duAt l n)) = false) : riseK l m = false := by
  unfold riseK
  rw [List.all_eq_false]
  refine ⟨n, List.mem_range.2 h, ?_⟩
  rw [g, decide_eq_true n0]
  exact Bool.false_ne_true
theorem riseK_is (l : List Du) : riseK l l.length = true ↔ ∀ k, 0 < k → k < l.length → (duAt l (k - 1)).lt (duAt l k) := by
  unfold riseK
  rw [List.all_eq_true]
  constructor
  · intro h j j0 hj
    have := h j (List.mem_range.2 hj)
    rw [decide_eq_true j0, Bool.true_and, Bool.not_not] at this
    exact of_decide_eq_true this
  · intro h j hj
    have hj := List.mem_range.1 hj
    by_cases j0 : 0 < j
    · rw [decide_eq_true (h j j0 hj)]; simp
    · simp [j0]
set_option maxHeartbeats 1600000 in
set_option maxRecDepth 100000 in
theorem implRises (a : Option Addr) (cap : Nat) (l : List Du) (w : World) (hT : l.length ≤ 1048576) (h : Hid (DusAt w a l)) :
    Calls Try.prog 39 #[.slice a l.length cap] w fun e w' => e = .returned (.bool (riseK l l.length)) ∧ Below w.heap.size w w' := by
  have K0 : Hid (riseK l 1 = true) := by show riseK l 1 = true; unfold riseK; simp
  have Z : Hid (l.length = 0 → riseK l 0 = true) := fun _ => rfl
  have Hit : Hid (∀ n, 0 < n → n < l.length → decide (0 ≤ duOrdV (duAt l (n - 1)) (duAt l n)) = true → riseK l l.length = false) := fun n n0 hn q => riseK_hit hn n0 (decide_eq_false fun e => by have := of_decide_eq_true q; have := (duOrd_lt _ _).2 e; omega)
  have Suc : Hid (∀ n, 0 < n → riseK l n = true → decide (0 ≤ duOrdV (duAt l (n - 1)) (duAt l n)) = false → riseK l (n + 1) = true) := fun n n0 h1 h2 => by
    rw [riseK_succ, h1, decide_eq_true ((duOrd_lt (duAt l (n - 1)) (duAt l n)).1 (by have := of_decide_eq_false h2; omega))]
    simp
  obtain ⟨len, hlen⟩ : ∃ n, l.length = n := ⟨_, rfl⟩
  rw [hlen] at hT Z Hit ⊢
  have Hlen : Hid (l.length = len) := hlen
  clear hlen
  go_enter Try.func39, Try.ntmps39
  go_wp2
  go_loopw [3] (fun i wr => ∃ k : Nat, 0 < k ∧ (k ≤ len ∨ k = 1) ∧ i = .int .i64 k ∧ Hid (riseK l k = true ∧ Below w.heap.size w wr)) (fun i _ => len - (intOf i).toNat)
  case atStart => exact ⟨1, by omega, .inr rfl, rfl, K0.out, Below.refl _ _⟩
  case round =>
    obtain ⟨k, hk0, hk, rfl, HK⟩ := hrel
    by_cases hlt : k < len
    · obtain ⟨m, rfl⟩ : ∃ m, k = m + 1 := ⟨k - 1, by omega⟩
      have R : Hid (DusAt wr a l) := h.out.below HK.out.2
      obtain ⟨b1, o1, ha1, hb1, -⟩ := R.out m (by rw [Hlen.out]; omega)
      subst ha1
      have g0 := fun p : BelW wr.heap.size wr => ((R.out.below p.h).cells (k := m) (by rw [Hlen.out]; omega)).1
      have g1 := fun p : BelW wr.heap.size wr => ((R.out.below p.h).cells (k := m) (by rw [Hlen.out]; omega)).2
      have f0 := fun p : BelW wr.heap.size wr => ((R.out.below p.h).cells (k := m + 1) (by rw [Hlen.out]; omega)).1
      have f1 := fun p : BelW wr.heap.size wr => ((R.out.below p.h).cells (k := m + 1) (by rw [Hlen.out]; omega)).2
      have O := fun w => implOrder (duAt l m) (duAt l (m + 1)) w
      have S1 := Suc.out (m + 1) hk0 HK.out.1
      have S2 := Hit.out (m + 1) hk0 hlt
      rw [Nat.add_sub_cancel] at S1 S2
      have hm0 := orderMeth (duAt l m).val
      generalize duOrdV (duAt l m) (duAt l (m + 1)) = z at O S1 S2
      unfold Du.val at O hm0
      generalize duAt l m = x at g0 g1 O hm0
      generalize duAt l (m + 1) = y at f0 f1 O
      have hlt' : (m : Int) + 1 < (len : Int) := by omega
      have hlt2 : (m : Int) < (len : Int) := by omega
      have St : Hid (∀ w2, Below wr.heap.size wr w2 → Below w.heap.size w w2) := fun w2 q => HK.out.2.trans (q.mono HK.out.2.size)
      have S1' : Hid _ := S1
      have S2' : Hid _ := S2
      clear S1 S2 R HK
      haveI : Nonempty (BelW wr.heap.size wr) := ⟨⟨wr, Below.refl _ _⟩⟩
      by_cases hz : 0 ≤ z
      · have hd : decide (0 ≤ z) = true := decide_eq_true hz
        have e : Hid _ := S2'.out hd
        go_upto_region 4 with fail
        refine region_below wr.heap.size (by kernel_rfl) (by kernel_rfl) ?_
        repeat (go_big_quiet_step ((go_at_call 81; refine quiet_below (Nat.le_refl _) (O _))))
        refine wpQuiet_nil ?_
        intro wq hx
        have hq : Hid (Below w.heap.size w wq) := St.out _ (BelW.out hx)
        clear hx f0 f1 g0 g1 O
        go_wp2
        go_ret
        exact ⟨ret_bool (by rw [e.out]), hq.out⟩
      · have hd : decide (0 ≤ z) = false := decide_eq_false hz
        have e : Hid (riseK l (m + 1 + 1) = true) := S1'.out hd
        go_upto_region 4 with fail
        refine region_below wr.heap.size (by kernel_rfl) (by kernel_rfl) ?_
        repeat (go_big_quiet_step ((go_at_call 81; refine quiet_below (Nat.le_refl _) (O _))))
        refine wpQuiet_nil ?_
        intro wq hx
        have hq : Hid (Below w.heap.size w wq) := St.out _ (BelW.out hx)
        clear hx f0 f1 g0 g1 O
        go_wp2
        go_roundw
        case rel => exact ⟨m + 1 + 1, by omega, .inl (by omega), by go_num, e.out, hq.out⟩
        case measure => simp [intOf]; omega
    · have e : riseK l len = true := by
        rcases hk with hk | rfl
        · obtain rfl : k = len := by omega
          exact HK.out.1
        · by_cases h0 : len = 0
          · rw [h0]; exact Z.out h0
          · obtain rfl : len = 1 := by omega
            exact HK.out.1
      have E : Hid _ := e
      clear e
      go_wp2
      go_ret
      exact ⟨ret_bool E.out.symm, HK.out.2⟩
end Go.Proofs.Ytgimalimfmoilaa

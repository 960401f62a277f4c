import Derived.Test.YtkocbfikcjgigaaGreatM1DuFn
import Derived.Test.YtkocbfikcjgigaaGreatM20HpMeth
import Derived.Test.YtkocbfikcjgigaaGreatM14DuCmp
import Derived.Test.YtkocbfikcjgigaaGreatQuiet
import Derived.BigQuiet
import Derived.WalkKit
import Derived.WalkSpells
import Derived.WalkLawsBesides
import Derived.RegionTactic
import Derived.Deep.RegionLaw
import Derived.Deep.CutRange
import Derived.Test.YtkocbfikcjgigaaGreatM5WhFn
import Derived.Test.YtkocbfikcjgigaaGreatM17DuMeth
/-
  The walks of the program's dues that only read: which are right, which is ahead in a heap, which lists are heaps, which rise, which is there. By the verifier.
-/
namespace Go.Proofs.YtkocbfikcjgigaaGreat
open Go.RowKit Go.Shelf

set_option maxHeartbeats 1600000 in
set_option maxRecDepth 100000 in
theorem implIsHeap (a : Option Addr) (cap : Nat) (l : List Du) (w : World) (hT : l.length ≤ 1048576) (h : Hid (DusAt w a l)) :
    Calls Tryz.prog 52 #[.slice a l.length cap] w fun e w' => e = .returned (.bool (heapK l l.length)) ∧ Below w.heap.size w w' := by
  have L := fun (i j : Nat) (w : World) (hi : i < l.length) (hj : j < l.length) (hh : DusAt w a l) => implLess a cap l i j w hi hj hh
  have K0 : Hid (heapK l 1 = true) := by show heapK l 1 = true; unfold heapK; simp
  have Z : Hid (l.length = 0 → heapK l 0 = true) := fun _ => rfl
  have Hit : Hid (∀ n, 0 < n → n < l.length → decide ((duAt l n).lt (duAt l ((n - 1) / 2))) = true → heapK l l.length = false) := fun n n0 hn q => heapK_hit hn (by simp only [Bool.and_eq_true, decide_eq_true_eq]; exact ⟨n0, of_decide_eq_true q⟩)
  have Suc : Hid (∀ n, 0 < n → heapK l n = true → decide ((duAt l n).lt (duAt l ((n - 1) / 2))) = false → heapK l (n + 1) = true) := fun n n0 h1 h2 => by rw [heapK_succ, h1, h2]; simp
  obtain ⟨len, hlen⟩ : ∃ n, l.length = n := ⟨_, rfl⟩
  rw [hlen] at hT L Z Hit ⊢
  clear hlen
  have L' : Hid _ := L
  clear L
  go_enter Tryz.func52, Tryz.ntmps52
  go_wp2
  go_loopw [3] (fun i wr => ∃ k : Nat, 0 < k ∧ (k ≤ len ∨ k = 1) ∧ i = .int .i64 k ∧ Hid (heapK l k = true ∧ Below w.heap.size w wr)) (fun i _ => len - (intOf i).toNat)
  case atStart => exact ⟨1, by omega, .inr rfl, rfl, K0.out, Below.refl _ _⟩
  case round =>
    obtain ⟨k, hk0, hk, rfl, HK⟩ := hrel
    by_cases hlt : k < len
    · have hp : (k - 1) / 2 < len := by omega
      have C := L'.out k ((k - 1) / 2) wr hlt hp (h.out.below HK.out.2)
      have hw1 : ((k : Int) - 1).tdiv 2 = (((k - 1) / 2 : Nat) : Int) := by
        rw [show ((k : Int) - 1) = ((k - 1 : Nat) : Int) by omega]
        rfl
      have hlt' : (k : Int) < (len : Int) := by omega
      have S1 := Suc.out k hk0 HK.out.1
      have S2 := Hit.out k hk0 hlt
      have hk1 : (1 : Int) ≤ (k : Int) := by omega
      generalize decide ((duAt l k).lt (duAt l ((k - 1) / 2))) = z at C S1 S2
      generalize (k - 1) / 2 = m at C hw1 hp
      have S1' : Hid _ := S1
      have S2' : Hid _ := S2
      clear S1 S2
      go_wp2_with fail
      refine C.mono ?_
      rintro e w1 ⟨rfl, b1⟩
      have B : Hid (Below w.heap.size w w1) := HK.out.2.trans (b1.mono HK.out.2.size)
      clear b1 C
      cases z
      · go_wp2
        go_roundw
        case rel => exact ⟨k + 1, by omega, .inl (by omega), by go_num, S1'.out (by first | exact trivial | exact rfl), B.out⟩
        case measure => simp [intOf]; omega
      · go_wp2
        go_ret
        exact ⟨ret_bool (by rw [S2'.out (by first | exact trivial | exact rfl)]), B.out⟩
    · have e : heapK l len = true := by
        rcases hk with hk | rfl
        · obtain rfl : k = len := by omega
          exact HK.out.1
        · by_cases h0 : len = 0
          · rw [h0]; exact Z.out h0
          · obtain rfl : len = 1 := by omega
            exact HK.out.1
      have E : Hid _ := e
      clear e
      go_wp2
      go_ret
      exact ⟨ret_bool E.out.symm, HK.out.2⟩

/-- Does each of the first n come behind the one ahead of it? -/
def riseK (l : List Du) (n : Nat) : Bool := (List.range n).all fun j => !(decide (0 < j) && !decide ((duAt l (j - 1)).lt (duAt l j)))
theorem riseK_succ (l : List Du) (n : Nat) : riseK l (n + 1) = (riseK l n && !(decide (0 < n) && !decide ((duAt l (n - 1)).lt (duAt l n)))) := by
  unfold riseK
  rw [List.range_succ, List.all_append]
  simp
theorem riseK_hit {l : List Du} {n m : Nat} (h : n < m) (n0 : 0 < n) (g : decide ((duAt l (n - 1)).lt (duAt l n)) = false) : riseK l m = false := by
  unfold riseK
  rw [List.all_eq_false]
  refine ⟨n, List.mem_range.2 h, ?_⟩
  rw [g, decide_eq_true n0]
  exact Bool.false_ne_true
theorem riseK_is (l : List Du) : riseK l l.length = true ↔ ∀ k, 0 < k → k < l.length → (duAt l (k - 1)).lt (duAt l k) := by
  unfold riseK
  rw [List.all_eq_true]
  constructor
  · intro h j j0 hj
    have := h j (List.mem_range.2 hj)
    rw [decide_eq_true j0, Bool.true_and, Bool.not_not] at this
    exact of_decide_eq_true this
  · intro h j hj
    have hj := List.mem_range.1 hj
    by_cases j0 : 0 < j
    · rw [decide_eq_true (h j j0 hj)]; simp
    · simp [j0]
set_option maxHeartbeats 1600000 in
set_option maxRecDepth 100000 in
theorem implRises (a : Option Addr) (cap : Nat) (l : List Du) (w : World) (hT : l.length ≤ 1048576) (h : Hid (DusAt w a l)) :
    Calls Tryz.prog 43 #[.slice a l.length cap] w fun e w' => e = .returned (.bool (riseK l l.length)) ∧ Below w.heap.size w w' := by
  have K0 : Hid (riseK l 1 = true) := by show riseK l 1 = true; unfold riseK; simp
  have Z : Hid (l.length = 0 → riseK l 0 = true) := fun _ => rfl
  have Hit : Hid (∀ n, 0 < n → n < l.length → decide (0 ≤ duOrdV (duAt l (n - 1)) (duAt l n)) = true → riseK l l.length = false) := fun n n0 hn q => riseK_hit hn n0 (decide_eq_false fun e => by have := of_decide_eq_true q; have := (duOrd_lt _ _).2 e; omega)
  have Suc : Hid (∀ n, 0 < n → riseK l n = true → decide (0 ≤ duOrdV (duAt l (n - 1)) (duAt l n)) = false → riseK l (n + 1) = true) := fun n n0 h1 h2 => by
    rw [riseK_succ, h1, decide_eq_true ((duOrd_lt (duAt l (n - 1)) (duAt l n)).1 (by have := of_decide_eq_false h2; omega))]
    simp
  obtain ⟨len, hlen⟩ : ∃ n, l.length = n := ⟨_, rfl⟩
  rw [hlen] at hT Z Hit ⊢
  have Hlen : Hid (l.length = len) := hlen
  clear hlen
  go_enter Tryz.func43, Tryz.ntmps43
  go_wp2
  go_loopw [3] (fun i wr => ∃ k : Nat, 0 < k ∧ (k ≤ len ∨ k = 1) ∧ i = .int .i64 k ∧ Hid (riseK l k = true ∧ Below w.heap.size w wr)) (fun i _ => len - (intOf i).toNat)
  case atStart => exact ⟨1, by omega, .inr rfl, rfl, K0.out, Below.refl _ _⟩
  case round =>
    obtain ⟨k, hk0, hk, rfl, HK⟩ := hrel
    by_cases hlt : k < len
    · obtain ⟨m, rfl⟩ : ∃ m, k = m + 1 := ⟨k - 1, by omega⟩
      have R : Hid (DusAt wr a l) := h.out.below HK.out.2
      obtain ⟨b1, o1, ha1, hb1, -⟩ := R.out m (by rw [Hlen.out]; omega)
      subst ha1
      have g0 := fun p : BelW wr.heap.size wr => ((R.out.below p.h).cells (k := m) (by rw [Hlen.out]; omega)).1
      have g1 := fun p : BelW wr.heap.size wr => ((R.out.below p.h).cells (k := m) (by rw [Hlen.out]; omega)).2
      have f0 := fun p : BelW wr.heap.size wr => ((R.out.below p.h).cells (k := m + 1) (by rw [Hlen.out]; omega)).1
      have f1 := fun p : BelW wr.heap.size wr => ((R.out.below p.h).cells (k := m + 1) (by rw [Hlen.out]; omega)).2
      have O := fun w => implOrder (duAt l m) (duAt l (m + 1)) w
      have S1 := Suc.out (m + 1) hk0 HK.out.1
      have S2 := Hit.out (m + 1) hk0 hlt
      rw [Nat.add_sub_cancel] at S1 S2
      have hm0 := orderMeth (duAt l m).val
      generalize duOrdV (duAt l m) (duAt l (m + 1)) = z at O S1 S2
      unfold Du.val at O hm0
      generalize duAt l m = x at g0 g1 O hm0
      generalize duAt l (m + 1) = y at f0 f1 O
      have hlt' : (m : Int) + 1 < (len : Int) := by omega
      have hlt2 : (m : Int) < (len : Int) := by omega
      have St : Hid (∀ w2, Below wr.heap.size wr w2 → Below w.heap.size w w2) := fun w2 q => HK.out.2.trans (q.mono HK.out.2.size)
      have S1' : Hid _ := S1
      have S2' : Hid _ := S2
      clear S1 S2 R HK
      haveI : Nonempty (BelW wr.heap.size wr) := ⟨⟨wr, Below.refl _ _⟩⟩
      by_cases hz : 0 ≤ z
      · have hd : decide (0 ≤ z) = true := decide_eq_true hz
        have e : Hid _ := S2'.out hd
        go_upto_region 4 with fail
        refine region_below wr.heap.size (by kernel_rfl) (by kernel_rfl) ?_
        repeat (go_big_quiet_step ((go_at_call 79; refine quiet_below (Nat.le_refl _) (O _))))
        refine wpQuiet_nil ?_
        intro wq hx
        have hq : Hid (Below w.heap.size w wq) := St.out _ (BelW.out hx)
        clear hx f0 f1 g0 g1 O
        go_wp2
        go_ret
        exact ⟨ret_bool (by rw [e.out]), hq.out⟩
      · have hd : decide (0 ≤ z) = false := decide_eq_false hz
        have e : Hid (riseK l (m + 1 + 1) = true) := S1'.out hd
        go_upto_region 4 with fail
        refine region_below wr.heap.size (by kernel_rfl) (by kernel_rfl) ?_
        repeat (go_big_quiet_step ((go_at_call 79; refine quiet_below (Nat.le_refl _) (O _))))
        refine wpQuiet_nil ?_
        intro wq hx
        have hq : Hid (Below w.heap.size w wq) := St.out _ (BelW.out hx)
        clear hx f0 f1 g0 g1 O
        go_wp2
        go_roundw
        case rel => exact ⟨m + 1 + 1, by omega, .inl (by omega), by go_num, e.out, hq.out⟩
        case measure => simp [intOf]; omega
    · have e : riseK l len = true := by
        rcases hk with hk | rfl
        · obtain rfl : k = len := by omega
          exact HK.out.1
        · by_cases h0 : len = 0
          · rw [h0]; exact Z.out h0
          · obtain rfl : len = 1 := by omega
            exact HK.out.1
      have E : Hid _ := e
      clear e
      go_wp2
      go_ret
      exact ⟨ret_bool E.out.symm, HK.out.2⟩
end Go.Proofs.YtkocbfikcjgigaaGreat

/-
  The walk of slices.BinarySearchFunc on dues that rise, and of the program's placeOf. By the verifier, by program.
-/
namespace Go.Proofs.YtkocbfikcjgigaaGreat
open Go.RowKit Go.Shelf

theorem search_up {l : List Du} {r : Du} (hs : Rise l) {h : Nat} (hh : h < l.length) (hlt : (duAt l h).lt r) : h < ahead l r := by
  apply Classical.byContradiction
  intro hn
  have hK : ahead l r < l.length := by omega
  have h1 := ahead_not hK
  by_cases e : ahead l r = h
  · rw [e] at h1; exact h1 hlt
  · have h2 := List.pairwise_iff_getElem.1 hs (ahead l r) h hK hh (by omega)
    rw [duAt_lt hK] at h1
    rw [duAt_lt hh] at hlt
    exact h1 (Du.lt_trans h2 hlt)
theorem search_down {l : List Du} {r : Du} {h : Nat} (hlt : ¬ (duAt l h).lt r) : ahead l r ≤ h := by
  apply Classical.byContradiction
  intro hn
  exact hlt (ahead_lt (by omega))
/-- Is it there? -/
def thereD (l : List Du) (r : Du) : Bool := decide (ahead l r < l.length) && decide (duOrdV (duAt l (ahead l r)) r = 0)
theorem thereD_has {l : List Du} {r : Du} (hs : Rise l) : thereD l r = duHas l r := by
  rw [Bool.eq_iff_iff, duHas_at]
  unfold thereD
  rw [Bool.and_eq_true, decide_eq_true_iff, decide_eq_true_iff, duOrd_eq]
  constructor
  · rintro ⟨h1, h2⟩
    exact ⟨_, h1, h2⟩
  · rintro ⟨j, hj, e⟩
    have h1 : ahead l r ≤ j := search_down (by rw [e]; exact Du.lt_irrefl _)
    have h2 : ¬ ahead l r < j := fun q => by
      have h3 := List.pairwise_iff_getElem.1 hs (ahead l r) j (by omega) hj q
      have h4 := ahead_not (l := l) (d := r) (by omega)
      rw [duAt_lt (by omega : ahead l r < l.length)] at h4
      rw [duAt_lt hj] at e
      rw [e] at h3
      exact h4 h3
    have e2 : ahead l r = j := by omega
    rw [e2]
    exact ⟨hj, e⟩

set_option maxHeartbeats 1600000 in
theorem implSearch0 (a : Option Addr) (cap : Nat) (l : List Du) (r : Du) (w : World) (hT : l.length ≤ 1048576) (hs : Hid (Rise l)) (h : Hid (DusAt w a l)) :
    Calls Tryz.prog 63 #[.slice a l.length cap, r.val, .func (.func 79) #[] #[]] w fun e w' => e = .returned (.tuple #[.int .i64 (ahead l r : Int), .bool (thereD l r)]) ∧ Below w.heap.size w w' := by
  have HT : Hid (thereD l r = (decide (ahead l r < l.length) && decide (duOrdV (duAt l (ahead l r)) r = 0))) := rfl
  obtain ⟨W0, hW0⟩ : ∃ W, W = w.alloc (.cells #[.int .i64 r.time, .int .i64 r.id] 33) := ⟨_, rfl⟩
  have HW : Hid (DusAt W0 a l ∧ Below w.heap.size w W0 ∧ Boxed W0 w.heap.size #[.int .i64 r.time, .int .i64 r.id] 33) := by
    rw [hW0]
    exact ⟨h.out.alloc _, (Below.refl _ _).alloc (Nat.le_refl _) _, Boxed.new _ _ _⟩
  have HW0 : Hid (W0 = _) := hW0
  clear hW0
  obtain ⟨K, hK⟩ : ∃ K, ahead l r = K := ⟨_, rfl⟩
  have HK : Hid (ahead l r = K) := hK
  have hKl : K ≤ l.length := by rw [← hK]; exact ahead_le _ _
  obtain ⟨len, hlen⟩ : ∃ n, l.length = n := ⟨_, rfl⟩
  have Hlen : Hid (l.length = len) := hlen
  rw [hlen] at hT hKl ⊢
  rw [hK]
  obtain ⟨tb, htb⟩ : ∃ b, thereD l r = b := ⟨_, rfl⟩
  rw [htb]
  have HTB : Hid (tb = (decide (K < len) && decide (duOrdV (duAt l K) r = 0))) := by
    show tb = _
    rw [← htb, HT.out, hK, hlen]
  clear hK hlen htb HT
  unfold Du.val
  go_enter Tryz.func63, Tryz.ntmps63
  go_wp2
  rw [← HW0.out]
  go_loopw [9, 10] (fun i j wr => ∃ i0 j0 : Nat, i0 ≤ K ∧ K ≤ j0 ∧ j0 ≤ len ∧ i = .int .i64 i0 ∧ j = .int .i64 j0 ∧ Hid (Below W0.heap.size W0 wr)) (fun i j _ => (intOf j).toNat - (intOf i).toNat)
  case atStart => exact ⟨0, len, Nat.zero_le _, hKl, Nat.le_refl _, rfl, rfl, Below.refl _ _⟩
  case round =>
    obtain ⟨i0, j0, hi0, hj0, hjl, rfl, rfl, HB⟩ := hrel
    have f0 : ∀ p : BelW wr.heap.size wr, p.w'.cell? ⟨w.heap.size, 0, none⟩ = some (.int .i64 r.time) := fun p => (HW.out.2.2.below HW.out.2.2.under (HB.out.trans (p.h.mono HB.out.size))).cell 0 rfl
    have f1 : ∀ p : BelW wr.heap.size wr, p.w'.cell? ⟨w.heap.size, 1, none⟩ = some (.int .i64 r.id) := fun p => (HW.out.2.2.below HW.out.2.2.under (HB.out.trans (p.h.mono HB.out.size))).cell 1 rfl
    haveI : Nonempty (BelW wr.heap.size wr) := ⟨⟨wr, Below.refl _ _⟩⟩
    by_cases hij : i0 < j0
    · obtain ⟨m, hm⟩ : ∃ m, (i0 + j0) / 2 = m := ⟨_, rfl⟩
      have hm1 : i0 ≤ m ∧ m < j0 := by omega
      have hml : m < len := by omega
      obtain ⟨b1, o1, ha1, hb1, -⟩ := HW.out.1 m (by rw [Hlen.out]; exact hml)
      subst ha1
      have g0 := fun p : BelW wr.heap.size wr => ((HW.out.1.below (HB.out.trans (p.h.mono HB.out.size))).cells (k := m) (by rw [Hlen.out]; exact hml)).1
      have g1 := fun p : BelW wr.heap.size wr => ((HW.out.1.below (HB.out.trans (p.h.mono HB.out.size))).cells (k := m) (by rw [Hlen.out]; exact hml)).2
      have O := fun w => implOrder (duAt l m) r w
      have up : Hid (duOrdV (duAt l m) r < 0 → m + 1 ≤ K) := by
        show _ → _
        intro hz
        have := search_up (r := r) hs.out (h := m) (by rw [Hlen.out]; exact hml) ((duOrd_lt _ _).1 hz)
        rw [HK.out] at this
        omega
      have down : Hid (¬ duOrdV (duAt l m) r < 0 → K ≤ m) := by
        show _ → _
        intro hz
        have := search_down (l := l) (r := r) (h := m) (fun q => hz ((duOrd_lt _ _).2 q))
        rwa [HK.out] at this
      generalize duOrdV (duAt l m) r = z at O up down
      unfold Du.val at O
      generalize duAt l m = y at g0 g1 O
      have hml' : (m : Int) < (len : Int) := by omega
      have hm' : ((i0 : Int) + (j0 : Int)) / 2 = (m : Int) := by omega
      clear hm
      by_cases hz : z < 0
      · have hd : decide (z < 0) = true := by simp [hz]
        have hK1 := up.out hz
        clear up down hz
        go_wp2

        refine region_below wr.heap.size (by kernel_rfl) (by kernel_rfl) ?_
        repeat (go_big_quiet_step ((go_at_call 79; refine quiet_below (Nat.le_refl _) (O _))))
        refine wpQuiet_nil ?_
        intro wq hx
        have hq := BelW.out hx
        have HB2 : Hid (Below W0.heap.size W0 wq) := HB.out.trans (hq.mono HB.out.size)
        clear hx hq f0 f1 g0 g1 O
        go_wp2
        go_roundw
        case rel => exact ⟨m + 1, j0, by omega, hj0, hjl, by go_num, rfl, HB2⟩
        case measure => simp [intOf]; omega
      · have hd : decide (z < 0) = false := by simp [hz]
        have hK1 := down.out hz
        clear up down hz
        go_wp2
        refine region_below wr.heap.size (by kernel_rfl) (by kernel_rfl) ?_
        repeat (go_big_quiet_step ((go_at_call 79; refine quiet_below (Nat.le_refl _) (O _))))
        refine wpQuiet_nil ?_
        intro wq hx
        have hq := BelW.out hx
        have HB2 : Hid (Below W0.heap.size W0 wq) := HB.out.trans (hq.mono HB.out.size)
        clear hx hq f0 f1 g0 g1 O
        go_wp2
        go_roundw
        case rel => exact ⟨i0, m, hi0, hK1, by omega, rfl, rfl, HB2⟩
        case measure => simp [intOf]; omega
    · obtain rfl : i0 = K := by omega
      obtain rfl : j0 = i0 := by omega
      by_cases hlt : j0 < len
      · obtain ⟨b1, o1, ha1, hb1, -⟩ := HW.out.1 j0 (by rw [Hlen.out]; exact hlt)
        subst ha1
        have g0 := fun p : BelW wr.heap.size wr => ((HW.out.1.below (HB.out.trans (p.h.mono HB.out.size))).cells (k := j0) (by rw [Hlen.out]; exact hlt)).1
        have g1 := fun p : BelW wr.heap.size wr => ((HW.out.1.below (HB.out.trans (p.h.mono HB.out.size))).cells (k := j0) (by rw [Hlen.out]; exact hlt)).2
        have O := fun w => implOrder (duAt l j0) r w
        have htb : Hid (tb = (duOrdV (duAt l j0) r == 0)) := by
          show tb = _
          rw [HTB.out, decide_eq_true hlt, Bool.true_and]
          rw [Bool.eq_iff_iff, decide_eq_true_iff, beq_iff_eq]
        generalize duOrdV (duAt l j0) r = z at O htb
        unfold Du.val at O
        generalize duAt l j0 = y at g0 g1 O
        have hlt' : (j0 : Int) < (len : Int) := by omega
        have hd : decide ((j0 : Int) < (len : Int)) = true := by simp [hlt]
        clear HTB
        go_wp2
        refine region_below wr.heap.size (by kernel_rfl) (by kernel_rfl) ?_
        repeat (go_big_quiet_step ((go_at_call 79; refine quiet_below (Nat.le_refl _) (O _))))
        refine wpQuiet_nil ?_
        intro wq hx
        have hq := BelW.out hx
        have HB2 : Hid (Below w.heap.size w wq) := HW.out.2.1.trans ((HB.out.trans (hq.mono HB.out.size)).mono HW.out.2.1.size)
        clear hx hq f0 f1 g0 g1 O
        go_wp2
        go_ret2
        exact ⟨by rw [htb.out]; rfl, HB2.out⟩
      · have hd : decide ((j0 : Int) < (len : Int)) = false := by simp; omega
        have htb : Hid (tb = false) := by
          show tb = _
          rw [HTB.out, decide_eq_false hlt, Bool.false_and]
        clear HTB
        go_wp2
        refine region_below wr.heap.size (by kernel_rfl) (by kernel_rfl) ?_
        repeat (go_big_quiet_step (fail))
        refine wpQuiet_nil ?_
        intro wq hx
        have hq := BelW.out hx
        have HB2 : Hid (Below w.heap.size w wq) := HW.out.2.1.trans ((HB.out.trans (hq.mono HB.out.size)).mono HW.out.2.1.size)
        clear hx hq f0 f1
        go_wp2
        go_ret2
        exact ⟨by rw [htb.out]; rfl, HB2.out⟩

def searchT : FuncId → Option (List Tmp) := fun g => List.lookup g [(63, [2, 24, 40]), (79, []), (92, []), (93, []), (99, [])]
theorem okSearch : ([63, 79, 92, 93, 99].all fun g => (searchT g).all (okFn Tryz.prog searchT g)) = true := by kernel_rfl
theorem searchT_in {g : FuncId} {G : List Tmp} (h : searchT g = some G) : g ∈ [63, 79, 92, 93, 99] := by
  unfold searchT at h
  simp only [List.lookup] at h
  repeat' (split at h)
  all_goals first | (cases h; done) | (simp_all; done)
theorem searchSim : SimOk Tryz.prog searchT (.func (.func 79) #[] #[]) (.func (.methodOf 33 "loop.example/g00316/impl.order") #[] #[]) 79 where
  fns g G h := by
    have := List.all_eq_true.1 okSearch g (searchT_in h)
    rw [h] at this
    simpa using this
  one := by kernel_rfl
  e1 := methE1
  e2 := methE2
  n1 b h := by cases h
  n2 b h := by cases h
  early := noStepS
theorem searchT_is : searchT 63 = some [2, 24, 40] := by kernel_rfl
theorem searchArgs (v1 v2 s t : Value) : ArgR v1 v2 [2, 24, 40] #[s, t, v1] #[s, t, v2] := by
  refine ⟨rfl, fun i hi => ?_, fun i hi => ?_⟩
  · match i, hi with
    | 0, _ => rfl
    | 1, _ => rfl
    | 2, hi => exact absurd (by simp) hi
    | i + 3, _ => simp
  · rcases List.mem_cons.1 hi with rfl | hi
    · right; exact ⟨rfl, rfl⟩
    · left
      rcases List.mem_cons.1 hi with rfl | hi
      · simp
      · rcases List.mem_cons.1 hi with rfl | hi
        · simp
        · cases hi
theorem implSearch (a : Option Addr) (cap : Nat) (l : List Du) (r : Du) (w : World) (hT : l.length ≤ 1048576) (hs : Rise l) (h : DusAt w a l) :
    Calls Tryz.prog 63 #[.slice a l.length cap, r.val, .func (.methodOf 33 "loop.example/g00316/impl.order") #[] #[]] w fun e w' => e = .returned (.tuple #[.int .i64 (ahead l r : Int), .bool (thereD l r)]) ∧ Below w.heap.size w w' :=
  calls_sim searchSim searchT_is (searchArgs _ _ _ _) (fun _ _ hh => ⟨_, hh.1⟩) (implSearch0 a cap l r w hT hs h)
set_option maxHeartbeats 1600000 in
theorem implPlaceOf (a : Option Addr) (cap : Nat) (l : List Du) (r : Du) (w : World) (hT : l.length ≤ 1048576) (hs : Rise l) (h : DusAt w a l) :
    Calls Tryz.prog 34 #[.slice a l.length cap, r.val] w fun e w' => e = .returned (.tuple #[.int .i64 (ahead l r : Int), .bool (duHas l r)]) ∧ Below w.heap.size w w' := by
  have b0 : Below w.heap.size w (w.alloc (.cells #[.int .i64 r.time, .int .i64 r.id] 33)) := (Below.refl _ _).alloc (Nat.le_refl _) _
  have C := fun (_ : Nat) => implSearch a cap l r _ hT hs (h.below b0)
  rw [thereD_has hs] at C
  have C' : Hid _ := C
  have B0 : Hid _ := b0
  clear C b0 h hs hT
  generalize duHas l r = tb at C' ⊢
  generalize ahead l r = K at C' ⊢
  generalize l.length = n at C' ⊢
  obtain ⟨t, i⟩ := r
  simp only [Du.val] at C' B0 ⊢
  go_enter Tryz.func34, Tryz.ntmps34
  go_wp2_with fail
  refine (C'.out 0).mono ?_
  rintro e w2 ⟨rfl, q⟩
  have Z : Hid (Below w.heap.size w w2) := B0.out.trans (q.mono B0.out.size)
  clear q
  go_wp2
  go_ret2
  exact ⟨rfl, Z.out⟩
end Go.Proofs.YtkocbfikcjgigaaGreat

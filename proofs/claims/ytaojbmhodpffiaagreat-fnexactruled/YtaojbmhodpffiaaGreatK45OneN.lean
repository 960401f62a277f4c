/-
  The walks of slices.Index and slices.Contains on numbers, and of the program's fromOne. By the verifier.
-/
import Derived.Test.YtaojbmhodpffiaaGreatK15NumUp
import Derived.Test.YtaojbmhodpffiaaGreatK2NumIn
import Derived.Test.YtaojbmhodpffiaaGreatK10Quiet
namespace Go.Proofs.YtaojbmhodpffiaaGreat
open Go.RowKit

set_option maxHeartbeats 1600000 in
theorem implIndexN (a : Option Addr) (cap : Nat) (l : List Int) (x : Int) (w : World) (hT : l.length ≤ 1048576) (h : Hid (IntsAt w a l)) :
    Calls Tryz.prog 175 #[.slice a l.length cap, .int .i64 x] w fun e w' => e = .returned (.int .i64 (if l.findIdx (fun z => decide (x = z)) < l.length then (l.findIdx (fun z => decide (x = z)) : Int) else -1)) ∧ w' = w := by
  obtain ⟨len, hlen⟩ : ∃ n, l.length = n := ⟨_, rfl⟩
  have Hlen : Hid (l.length = len) := hlen
  obtain ⟨N, hN⟩ : ∃ N, l.findIdx (fun z => decide (x = z)) = N := ⟨_, rfl⟩
  have HN : Hid (l.findIdx (fun z => decide (x = z)) = N) := hN
  have hNl : N ≤ len := by rw [← hN, ← hlen]; exact List.findIdx_le_length
  rw [hlen] at hT ⊢
  rw [hN]
  clear hlen hN
  go_enter Tryz.func175, Tryz.ntmps175
  go_wp2
  go_loop [8] (fun i => ∃ k : Nat, k ≤ N ∧ i = .int .i64 k) (fun i => len - (intOf i).toNat)
  case atStart => exact ⟨0, Nat.zero_le _, rfl⟩
  case round =>
    obtain ⟨k, hk, rfl⟩ := hrel
    by_cases hlt : k < len
    · obtain ⟨b1, o1, ha1, hb1, c0⟩ := h.out k (by rw [Hlen.out]; exact hlt)
      subst ha1
      have hkL : k < l.length := by rw [Hlen.out]; exact hlt
      rw [List.getElem?_eq_getElem hkL, Option.getD_some] at c0
      have hlt' : (k : Int) < (len : Int) := by omega
      by_cases hkN : k = N
      · have hp : x = l[k] := by
          have := List.findIdx_getElem (p := fun z => decide (x = z)) (xs := l) (w := by rw [HN.out, Hlen.out, ← hkN]; exact hlt)
          simpa only [HN.out, ← hkN, decide_eq_true_eq] using this
        rw [← hp] at c0
        clear hp hkL
        subst hkN
        go_wp2
        go_ret
        exact ⟨by first | rfl | (rw [if_pos hlt]; rfl), rfl⟩
      · have hp : ¬ x = l[k] := by
          have := List.not_of_lt_findIdx (p := fun z => decide (x = z)) (xs := l) (i := k) (by rw [HN.out]; omega)
          simpa using this
        generalize l[k] = y at c0 hp
        clear hkL
        go_wp2
        go_round
        case rel => exact ⟨k + 1, by omega, by go_num⟩
        case measure => simp [intOf]; omega
    · obtain rfl : k = len := by omega
      obtain rfl : k = N := by omega
      go_wp2
      go_ret
      exact ⟨by first | rfl | (rw [if_neg (Nat.lt_irrefl _)]; rfl), rfl⟩

set_option maxHeartbeats 1600000 in
theorem implHasN (a : Option Addr) (cap : Nat) (l : List Int) (x : Int) (w : World) (hT : l.length ≤ 1048576) (h : Hid (IntsAt w a l)) :
    Calls Tryz.prog 150 #[.slice a l.length cap, .int .i64 x] w fun e w' => e = .returned (.bool (decide (x ∈ l))) ∧ w' = w := by
  have I := implIndexN a cap l x w hT h
  have hd : decide (x ∈ l) = decide (l.findIdx (fun z => decide (x = z)) < l.length) := by
    rw [Bool.eq_iff_iff, decide_eq_true_iff, decide_eq_true_iff, List.findIdx_lt_length]
    simp
  rw [hd]
  generalize l.findIdx (fun z => decide (x = z)) = N at I ⊢
  generalize l.length = len at I ⊢
  clear hd hT h
  go_enter Tryz.func150, Tryz.ntmps150
  go_wp2_with fail
  refine I.mono ?_
  rintro e w1 ⟨rfl, rfl⟩
  clear I
  by_cases hk : N < len
  · rw [if_pos hk]
    have h0 : (0 : Int) ≤ (N : Int) := by omega
    go_wp2
    go_ret
    exact ⟨by simp [hk], rfl⟩
  · rw [if_neg hk]
    go_wp2
    go_ret
    exact ⟨by simp [hk], rfl⟩

theorem one_of (most n : Int) : (inB 0 most n && !decide ((0 : Int) ∈ [n])) = inB 1 most n := by
  rw [Bool.eq_iff_iff]
  simp only [Bool.and_eq_true, inB_true, Bool.not_eq_true', decide_eq_false_iff_not, List.mem_singleton]
  omega

set_option maxHeartbeats 1600000 in
theorem implFromOne (most n : Int) (B : Nat) (w : World) (hB : B = w.heap.size) :
    Calls Tryz.prog 102 #[.int .i64 most, .slice (some ⟨B, 0, none⟩) 1 1] (w.alloc (.cells #[.int .i64 n] 2)) fun e w' => e = .returned (.bool (inB 1 most n)) ∧ w' = w.alloc (.cells #[.int .i64 n] 2) := by
  have A1 := fun (_ : Nat) => implUpTo1 most n w B hB
  have hI : Hid (IntsAt (w.alloc (.cells #[.int .i64 n] 2)) (some ⟨B, 0, none⟩) [n]) := ints_new w 2 [n] #[.int .i64 n] B hB rfl
  have A2 := fun (_ : Nat) => implHasN (some ⟨B, 0, none⟩) 1 [n] 0 (w.alloc (.cells #[.int .i64 n] 2)) (by simp) hI
  rw [show ([n] : List Int).length = 1 from rfl] at A2
  have H := one_of most n
  generalize decide ((0 : Int) ∈ [n]) = z at A2 H
  generalize inB 0 most n = y at A1 H
  generalize inB 1 most n = x at H ⊢
  generalize w.alloc (.cells #[.int .i64 n] 2) = W at A1 A2 ⊢
  have A1' : Hid _ := A1
  have A2' : Hid _ := A2
  have HH : Hid _ := H
  clear A1 A2 H hI hB
  go_enter Tryz.func102, Tryz.ntmps102
  go_wp2_with fail
  refine (A1'.out 0).mono ?_
  rintro e w1 ⟨rfl, rfl⟩
  cases y
  · go_wp2
    go_ret
    exact ⟨ret_bool (by rw [← HH.out]; rfl), rfl⟩
  go_wp2_with fail
  refine (A2'.out 0).mono ?_
  rintro e w2 ⟨rfl, rfl⟩
  go_wp2
  go_ret
  exact ⟨ret_bool (by rw [← HH.out]; cases z <;> rfl), rfl⟩

end Go.Proofs.YtaojbmhodpffiaaGreat

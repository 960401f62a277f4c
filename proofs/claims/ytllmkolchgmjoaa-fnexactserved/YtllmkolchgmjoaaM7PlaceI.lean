import Derived.Test.YtllmkolchgmjoaaRows
import Derived.WalkKit
import Derived.WalkSpells
import Derived.WalkLawsBesides
import Derived.RowKit3
import Derived.Test.YtllmkolchgmjoaaFrPlain
import Derived.Test.YtllmkolchgmjoaaNumIn
import Derived.Test.YtllmkolchgmjoaaQuiet
/-
  Numbers within bounds, the program's way; numbers that lie in cells. By the verifier.
-/
namespace Go.Proofs.Ytllmkolchgmjoaa
open Go.RowKit

theorem all_take_succ' (p : Int → Bool) (zs : List Int) (k : Nat) (hk : k < zs.length) :
    (zs.take (k + 1)).all p = ((zs.take k).all p && p (zs[k]?.getD 0)) := by
  rw [List.take_succ_eq_append_getElem hk, List.all_append]; simp [List.getElem?_eq_getElem hk]
theorem all_hit' (p : Int → Bool) (zs : List Int) (k : Nat) (hk : k < zs.length) (h : p (zs[k]?.getD 0) = false) : zs.all p = false := by
  rw [List.all_eq_false]
  exact ⟨zs[k], List.getElem_mem hk, by simp [List.getElem?_eq_getElem hk] at h; simp [h]⟩

theorem implUpTo (most : Int) (a : Option Addr) (cap : Nat) (zs : List Int) (w : World) (hbig : zs.length ≤ 1048576) (hc : Hid (IntsAt w a zs)) :
    Calls Try.prog 37 #[.int .i64 most, .slice a zs.length cap] w fun e w' => e = .returned (.bool (zs.all (inB 0 most))) ∧ w' = w := by
  obtain ⟨len, hlen⟩ : ∃ n, zs.length = n := ⟨_, rfl⟩
  rw [hlen] at hbig ⊢
  have Hlen : Hid (zs.length = len) := hlen
  clear hlen
  go_enter Try.func37, Try.ntmps37
  go_wp2
  go_loop [9] (fun i => ∃ k : Nat, k ≤ len ∧ i = .int .i64 k ∧ (zs.take k).all (inB 0 most) = true) (fun i => len - (intOf i).toNat)
  case atStart => exact ⟨0, Nat.zero_le _, rfl, rfl⟩
  case round =>
    obtain ⟨k, hk, rfl, hall⟩ := hrel
    have Hall : Hid ((zs.take k).all (inB 0 most) = true) := hall
    clear hall
    by_cases hlt : k < len
    · obtain ⟨b, off, ha, hb, hcell⟩ := hc.out k (by rw [Hlen.out]; exact hlt)
      subst ha
      have hs := all_take_succ' (inB 0 most) zs k (by rw [Hlen.out]; exact hlt)
      have hh := all_hit' (inB 0 most) zs k (by rw [Hlen.out]; exact hlt)
      rw [Hall.out] at hs
      generalize zs[k]?.getD 0 = z at hcell hs hh
      have Hs : Hid ((zs.take (k + 1)).all (inB 0 most) = (true && inB 0 most z)) := hs
      have Hh : Hid (inB 0 most z = false → zs.all (inB 0 most) = false) := hh
      clear hs hh
      by_cases z0 : 0 ≤ z
      · by_cases z1 : z ≤ most
        · have hok : Hid (inB 0 most z = true) := by show inB 0 most z = true; rw [inB_true]; omega
          go_wp2
          go_round
          case rel => exact ⟨k + 1, by omega, by go_num, by rw [Hs.out, hok.out]; rfl⟩
          case measure => simp [intOf]; omega
        · have hok : Hid (inB 0 most z = false) := by show inB 0 most z = false; rw [inB_false]; omega
          go_wp2
          go_ret
          rw [Hh.out hok.out]
          exact ⟨rfl, rfl⟩
      · have hok : Hid (inB 0 most z = false) := by show inB 0 most z = false; rw [inB_false]; omega
        go_wp2
        go_ret
        rw [Hh.out hok.out]
        exact ⟨rfl, rfl⟩
    · go_wp2
      go_ret
      have : zs.take k = zs := List.take_of_length_le (by rw [Hlen.out]; omega)
      rw [← this, Hall.out]
      exact ⟨rfl, rfl⟩

theorem implUpTo1 (most n : Int) (w : World) (B : Nat) (hB : B = w.heap.size) :
    Calls Try.prog 37 #[.int .i64 most, .slice (some ⟨B, 0, none⟩) 1 1] (w.alloc (.cells #[.int .i64 n] 2)) fun e w' => e = .returned (.bool (inB 0 most n)) ∧ w' = w.alloc (.cells #[.int .i64 n] 2) := by
  have h := implUpTo most (some ⟨B, 0, none⟩) 1 [n] (w.alloc (.cells #[.int .i64 n] 2)) (by simp) (show Hid _ from ints_new w 2 [n] #[.int .i64 n] B hB rfl)
  simpa using h
end Go.Proofs.Ytllmkolchgmjoaa

/-
  The walks of slices.Index and slices.Contains on numbers, and of the program's fromOne. By the verifier.
-/
namespace Go.Proofs.Ytllmkolchgmjoaa
open Go.RowKit

set_option maxHeartbeats 1600000 in
theorem implIndexN (a : Option Addr) (cap : Nat) (l : List Int) (x : Int) (w : World) (hT : l.length ≤ 1048576) (h : Hid (IntsAt w a l)) :
    Calls Try.prog 75 #[.slice a l.length cap, .int .i64 x] w fun e w' => e = .returned (.int .i64 (if l.findIdx (fun z => decide (x = z)) < l.length then (l.findIdx (fun z => decide (x = z)) : Int) else -1)) ∧ w' = w := by
  obtain ⟨len, hlen⟩ : ∃ n, l.length = n := ⟨_, rfl⟩
  have Hlen : Hid (l.length = len) := hlen
  obtain ⟨N, hN⟩ : ∃ N, l.findIdx (fun z => decide (x = z)) = N := ⟨_, rfl⟩
  have HN : Hid (l.findIdx (fun z => decide (x = z)) = N) := hN
  have hNl : N ≤ len := by rw [← hN, ← hlen]; exact List.findIdx_le_length
  rw [hlen] at hT ⊢
  rw [hN]
  clear hlen hN
  go_enter Try.func75, Try.ntmps75
  go_wp2
  go_loop [8] (fun i => ∃ k : Nat, k ≤ N ∧ i = .int .i64 k) (fun i => len - (intOf i).toNat)
  case atStart => exact ⟨0, Nat.zero_le _, rfl⟩
  case round =>
    obtain ⟨k, hk, rfl⟩ := hrel
    by_cases hlt : k < len
    · obtain ⟨b1, o1, ha1, hb1, c0⟩ := h.out k (by rw [Hlen.out]; exact hlt)
      subst ha1
      have hkL : k < l.length := by rw [Hlen.out]; exact hlt
      rw [List.getElem?_eq_getElem hkL, Option.getD_some] at c0
      have hlt' : (k : Int) < (len : Int) := by omega
      by_cases hkN : k = N
      · have hp : x = l[k] := by
          have := List.findIdx_getElem (p := fun z => decide (x = z)) (xs := l) (w := by rw [HN.out, Hlen.out, ← hkN]; exact hlt)
          simpa only [HN.out, ← hkN, decide_eq_true_eq] using this
        rw [← hp] at c0
        clear hp hkL
        subst hkN
        go_wp2
        go_ret
        exact ⟨by first | rfl | (rw [if_pos hlt]; rfl), rfl⟩
      · have hp : ¬ x = l[k] := by
          have := List.not_of_lt_findIdx (p := fun z => decide (x = z)) (xs := l) (i := k) (by rw [HN.out]; omega)
          simpa using this
        generalize l[k] = y at c0 hp
        clear hkL
        go_wp2
        go_round
        case rel => exact ⟨k + 1, by omega, by go_num⟩
        case measure => simp [intOf]; omega
    · obtain rfl : k = len := by omega
      obtain rfl : k = N := by omega
      go_wp2
      go_ret
      exact ⟨by first | rfl | (rw [if_neg (Nat.lt_irrefl _)]; rfl), rfl⟩

set_option maxHeartbeats 1600000 in
theorem implHasN (a : Option Addr) (cap : Nat) (l : List Int) (x : Int) (w : World) (hT : l.length ≤ 1048576) (h : Hid (IntsAt w a l)) :
    Calls Try.prog 64 #[.slice a l.length cap, .int .i64 x] w fun e w' => e = .returned (.bool (decide (x ∈ l))) ∧ w' = w := by
  have I := implIndexN a cap l x w hT h
  have hd : decide (x ∈ l) = decide (l.findIdx (fun z => decide (x = z)) < l.length) := by
    rw [Bool.eq_iff_iff, decide_eq_true_iff, decide_eq_true_iff, List.findIdx_lt_length]
    simp
  rw [hd]
  generalize l.findIdx (fun z => decide (x = z)) = N at I ⊢
  generalize l.length = len at I ⊢
  clear hd hT h
  go_enter Try.func64, Try.ntmps64
  go_wp2_with fail
  refine I.mono ?_
  rintro e w1 ⟨rfl, rfl⟩
  clear I
  by_cases hk : N < len
  · rw [if_pos hk]
    have h0 : (0 : Int) ≤ (N : Int) := by omega
    go_wp2
    go_ret
    exact ⟨by simp [hk], rfl⟩
  · rw [if_neg hk]
    go_wp2
    go_ret
    exact ⟨by simp [hk], rfl⟩

theorem one_of (most n : Int) : (inB 0 most n && !decide ((0 : Int) ∈ [n])) = inB 1 most n := by
  rw [Bool.eq_iff_iff]
  simp only [Bool.and_eq_true, inB_true, Bool.not_eq_true', decide_eq_false_iff_not, List.mem_singleton]
  omega

set_option maxHeartbeats 1600000 in
theorem implFromOne (most n : Int) (B : Nat) (w : World) (hB : B = w.heap.size) :
    Calls Try.prog 38 #[.int .i64 most, .slice (some ⟨B, 0, none⟩) 1 1] (w.alloc (.cells #[.int .i64 n] 2)) fun e w' => e = .returned (.bool (inB 1 most n)) ∧ w' = w.alloc (.cells #[.int .i64 n] 2) := by
  have A1 := fun (_ : Nat) => implUpTo1 most n w B hB
  have hI : Hid (IntsAt (w.alloc (.cells #[.int .i64 n] 2)) (some ⟨B, 0, none⟩) [n]) := ints_new w 2 [n] #[.int .i64 n] B hB rfl
  have A2 := fun (_ : Nat) => implHasN (some ⟨B, 0, none⟩) 1 [n] 0 (w.alloc (.cells #[.int .i64 n] 2)) (by simp) hI
  rw [show ([n] : List Int).length = 1 from rfl] at A2
  have H := one_of most n
  generalize decide ((0 : Int) ∈ [n]) = z at A2 H
  generalize inB 0 most n = y at A1 H
  generalize inB 1 most n = x at H ⊢
  generalize w.alloc (.cells #[.int .i64 n] 2) = W at A1 A2 ⊢
  have A1' : Hid _ := A1
  have A2' : Hid _ := A2
  have HH : Hid _ := H
  clear A1 A2 H hI hB
  go_enter Try.func38, Try.ntmps38
  go_wp2_with fail
  refine (A1'.out 0).mono ?_
  rintro e w1 ⟨rfl, rfl⟩
  cases y
  · go_wp2
    go_ret
    exact ⟨ret_bool (by rw [← HH.out]; rfl), rfl⟩
  go_wp2_with fail
  refine (A2'.out 0).mono ?_
  rintro e w2 ⟨rfl, rfl⟩
  go_wp2
  go_ret
  exact ⟨ret_bool (by rw [← HH.out]; cases z <;> rfl), rfl⟩

end Go.Proofs.Ytllmkolchgmjoaa

/-
  The walk of the program's isPlace. By the verifier.
-/
namespace Go.Proofs.Ytllmkolchgmjoaa
open Go.RowKit

set_option maxHeartbeats 1600000 in
theorem implPlace (n : Nat) (p : Int) (w : World) (hn : n ≤ 1048576) :
    Calls Try.prog 50 #[.int .i64 (n : Int), .int .i64 p] w fun e w' => e = .returned (.bool (inB 0 ((n : Int) - 1) p)) ∧ w' = w.alloc (.cells #[.int .i64 p] 2) := by
  have A := fun B w h => implUpTo1 ((n : Int) - 1) p w B h
  generalize inB 0 ((n : Int) - 1) p = y at A ⊢
  have A' : Hid _ := A
  clear A
  have q1 : -9223372036854775808 ≤ (n : Int) - 1 := by omega
  have q2 : (n : Int) - 1 ≤ 9223372036854775807 := by omega
  go_enter Try.func50, Try.ntmps50
  go_wp2_with fail
  refine (A'.out _ _ (by simp)).mono ?_
  rintro e w' ⟨rfl, rfl⟩
  go_wp2
  go_ret
  exact ⟨rfl, rfl⟩
end Go.Proofs.Ytllmkolchgmjoaa

import Derived.Test.YtkocbfikcjgigaaGreatM0DuOrd
import Derived.Test.YtkocbfikcjgigaaGreatM1DuFn
import Derived.WalkKit
import Derived.WalkSpells
import Derived.WalkLawsBesides
import Derived.Test.YtkocbfikcjgigaaGreatQuiet
import Derived.Shelf.Abstract
import Derived.Test.YtkocbfikcjgigaaGreatRows
import Derived.RowKit3
import Derived.Test.YtkocbfikcjgigaaGreatM14DuCmp
import Derived.BigQuiet
import Derived.RegionTactic
import Derived.Deep.RegionLaw
import Derived.Deep.CutRange
/-
  The walks of slices.IndexFunc and slices.ContainsFunc on dues, for whatever function tells yes or no. By the verifier.
-/
namespace Go.Proofs.YtkocbfikcjgigaaGreat
open Go.RowKit Go.Shelf

/-- A function that tells yes or no of a due, as long as what it looks at lies as it lay. -/
structure DuTells (W0 : World) (D : Nat → Prop) (g : FuncId) (fs cb : Array Value) (Q : Du → Prop) (p : Du → Bool) : Prop where
  enters : Enters Tryz.prog g
  under : ∀ k, D k → k < W0.heap.size
  tells : ∀ (W : World) (r : Du), Q r → (∀ k, D k → W.heap[k]? = W0.heap[k]?) → Calls Tryz.prog g (fs ++ #[r.val] ++ cb) W fun e w' => e = .returned (.bool (p r)) ∧ Below W.heap.size W w'
theorem DuTells.more {W0 W1 : World} {D : Nat → Prop} {g : FuncId} {fs cb : Array Value} {Q : Du → Prop} {p : Du → Bool} (h : DuTells W0 D g fs cb Q p) (hs : W0.heap.size ≤ W1.heap.size) (hb : ∀ k, D k → W1.heap[k]? = W0.heap[k]?) : DuTells W1 D g fs cb Q p :=
  ⟨h.enters, fun k hk => Nat.lt_of_lt_of_le (h.under k hk) hs, fun W r hq hW => h.tells W r hq fun k hk => (hW k hk).trans (hb k hk)⟩

set_option maxHeartbeats 1600000 in
set_option maxRecDepth 100000 in
theorem implIndexD (a : Option Addr) (cap : Nat) (l : List Du) (g : FuncId) (fs cb : Array Value) (D : Nat → Prop) (Q : Du → Prop) (p : Du → Bool) (w : World) (hT : l.length ≤ 1048576) (h : Hid (DusAt w a l)) (hq : Hid (∀ r ∈ l, Q r)) (ht : Hid (DuTells w D g fs cb Q p)) :
    Calls Tryz.prog 69 #[.slice a l.length cap, .func (.func g) fs cb] w fun e w' => e = .returned (.int .i64 (if l.findIdx p < l.length then (l.findIdx p : Int) else -1)) ∧ Below w.heap.size w w' := by
  have eg : ∀ args w, (callFunc g args).run Tryz.prog w = .ok (.enter g args) w := ht.out.enters
  obtain ⟨len, hlen⟩ : ∃ n, l.length = n := ⟨_, rfl⟩
  have Hlen : Hid (l.length = len) := hlen
  obtain ⟨N, hN⟩ : ∃ N, l.findIdx p = N := ⟨_, rfl⟩
  have HN : Hid (l.findIdx p = N) := hN
  have hNl : N ≤ len := by rw [← hN, ← hlen]; exact List.findIdx_le_length
  rw [hlen] at hT ⊢
  rw [hN]
  clear hlen hN
  go_enter Tryz.func69, Tryz.ntmps69
  go_wp2
  go_loopw [8] (fun i wr => ∃ k : Nat, k ≤ N ∧ i = .int .i64 k ∧ Hid (Below w.heap.size w wr)) (fun i _ => len - (intOf i).toNat)
  case atStart => exact ⟨0, Nat.zero_le _, rfl, Below.refl _ _⟩
  case round =>
    obtain ⟨k, hk, rfl, H1⟩ := hrel
    by_cases hlt : k < len
    · have R : Hid (DusAt wr a l) := h.out.below H1.out
      obtain ⟨b1, o1, ha1, hb1, -⟩ := R.out k (by rw [Hlen.out]; exact hlt)
      subst ha1
      obtain ⟨c0, c1⟩ := R.out.cells (k := k) (by rw [Hlen.out]; exact hlt)
      have hmem : duAt l k ∈ l := by rw [duAt_lt (by rw [Hlen.out]; exact hlt)]; exact List.getElem_mem _
      have HC := ht.out.tells wr (duAt l k) (hq.out _ hmem) fun j hj => H1.out.block j (ht.out.under j hj)
      unfold Du.val at HC
      have hlt' : (k : Int) < (len : Int) := by omega
      by_cases hkN : k = N
      · have hp : p (duAt l k) = true := by
          rw [duAt_lt (by rw [Hlen.out]; exact hlt)]
          have := List.findIdx_getElem (p := p) (xs := l) (w := by rw [HN.out, Hlen.out, ← hkN]; exact hlt)
          simpa only [HN.out, ← hkN] using this
        rw [hp] at HC
        clear hmem hp R
        generalize duAt l k = r at c0 c1 HC
        subst hkN
        go_wp2_with fail
        refine HC.mono ?_
        rintro e w' ⟨rfl, hb'⟩
        have B2 : Hid (Below w.heap.size w w') := H1.out.trans (hb'.mono H1.out.size)
        clear hb' H1 HC c0 c1
        go_wp2
        go_ret
        exact ⟨by first | rfl | (rw [if_pos hlt]; rfl), B2.out⟩
      · have hp : p (duAt l k) = false := by
          rw [duAt_lt (by rw [Hlen.out]; exact hlt)]
          have := List.not_of_lt_findIdx (p := p) (xs := l) (i := k) (by rw [HN.out]; omega)
          simpa using this
        rw [hp] at HC
        clear hmem hp R
        generalize duAt l k = r at c0 c1 HC
        go_wp2_with fail
        refine HC.mono ?_
        rintro e w' ⟨rfl, hb'⟩
        have B2 : Hid (Below w.heap.size w w') := H1.out.trans (hb'.mono H1.out.size)
        clear hb' H1 HC c0 c1
        go_wp2
        go_roundw
        case rel => exact ⟨k + 1, by omega, by go_num, B2⟩
        case measure => simp [intOf]; omega
    · obtain rfl : k = len := by omega
      obtain rfl : k = N := by omega
      go_wp2
      go_ret
      exact ⟨by first | rfl | (rw [if_neg (Nat.lt_irrefl _)]; rfl), H1.out⟩

theorem any_idxD {α : Type} (l : List α) (p : α → Bool) : decide (l.findIdx p < l.length) = l.any p := by
  rw [Bool.eq_iff_iff, decide_eq_true_iff, List.findIdx_lt_length, List.any_eq_true]

set_option maxHeartbeats 1600000 in
theorem implContainsD (a : Option Addr) (cap : Nat) (l : List Du) (g : FuncId) (fs cb : Array Value) (D : Nat → Prop) (Q : Du → Prop) (p : Du → Bool) (w : World) (hT : l.length ≤ 1048576) (h : Hid (DusAt w a l)) (hq : Hid (∀ r ∈ l, Q r)) (ht : Hid (DuTells w D g fs cb Q p)) :
    Calls Tryz.prog 44 #[.slice a l.length cap, .func (.func g) fs cb] w fun e w' => e = .returned (.bool (l.any p)) ∧ Below w.heap.size w w' := by
  have I := fun (w : World) h ht => implIndexD a cap l g fs cb D Q p w hT h hq ht
  have Ha : Hid (decide (l.findIdx p < l.length) = l.any p) := any_idxD l p
  generalize l.any p = b at Ha ⊢
  by_cases hlt : l.findIdx p < l.length
  · rw [if_pos hlt] at I
    rw [decide_eq_true hlt] at Ha
    generalize l.findIdx p = N at I hlt
    generalize l.length = len at I hlt hT ⊢
    have I' : Hid _ := I
    clear I hlt
    have hp : (0 : Int) ≤ (N : Int) := by omega
    go_enter Tryz.func44, Tryz.ntmps44
    go_wp2_with fail
    refine (I'.out _ h ht).mono ?_
    rintro e w' ⟨rfl, hb⟩
    have B2 : Hid (Below w.heap.size w w') := hb
    clear hb
    go_wp2
    go_ret
    exact ⟨ret_bool (by rw [← Ha.out]), B2.out⟩
  · rw [if_neg hlt] at I
    rw [decide_eq_false hlt] at Ha
    generalize l.length = len at I hT ⊢
    have I' : Hid _ := I
    clear I hlt
    go_enter Tryz.func44, Tryz.ntmps44
    go_wp2_with fail
    refine (I'.out _ h ht).mono ?_
    rintro e w' ⟨rfl, hb⟩
    have B2 : Hid (Below w.heap.size w w') := hb
    clear hb
    go_wp2
    go_ret
    exact ⟨ret_bool (by rw [← Ha.out]), B2.out⟩
end Go.Proofs.YtkocbfikcjgigaaGreat

/-
  Numbers within bounds, the program's way; numbers that lie in cells. By the verifier.
-/
namespace Go.Proofs.YtkocbfikcjgigaaGreat
open Go.RowKit

theorem all_take_succ' (p : Int → Bool) (zs : List Int) (k : Nat) (hk : k < zs.length) :
    (zs.take (k + 1)).all p = ((zs.take k).all p && p (zs[k]?.getD 0)) := by
  rw [List.take_succ_eq_append_getElem hk, List.all_append]; simp [List.getElem?_eq_getElem hk]
theorem all_hit' (p : Int → Bool) (zs : List Int) (k : Nat) (hk : k < zs.length) (h : p (zs[k]?.getD 0) = false) : zs.all p = false := by
  rw [List.all_eq_false]
  exact ⟨zs[k], List.getElem_mem hk, by simp [List.getElem?_eq_getElem hk] at h; simp [h]⟩

theorem implUpTo (most : Int) (a : Option Addr) (cap : Nat) (zs : List Int) (w : World) (hbig : zs.length ≤ 1048576) (hc : Hid (IntsAt w a zs)) :
    Calls Tryz.prog 57 #[.int .i64 most, .slice a zs.length cap] w fun e w' => e = .returned (.bool (zs.all (inB 0 most))) ∧ w' = w := by
  obtain ⟨len, hlen⟩ : ∃ n, zs.length = n := ⟨_, rfl⟩
  rw [hlen] at hbig ⊢
  have Hlen : Hid (zs.length = len) := hlen
  clear hlen
  go_enter Tryz.func57, Tryz.ntmps57
  go_wp2
  go_loop [9] (fun i => ∃ k : Nat, k ≤ len ∧ i = .int .i64 k ∧ (zs.take k).all (inB 0 most) = true) (fun i => len - (intOf i).toNat)
  case atStart => exact ⟨0, Nat.zero_le _, rfl, rfl⟩
  case round =>
    obtain ⟨k, hk, rfl, hall⟩ := hrel
    have Hall : Hid ((zs.take k).all (inB 0 most) = true) := hall
    clear hall
    by_cases hlt : k < len
    · obtain ⟨b, off, ha, hb, hcell⟩ := hc.out k (by rw [Hlen.out]; exact hlt)
      subst ha
      have hs := all_take_succ' (inB 0 most) zs k (by rw [Hlen.out]; exact hlt)
      have hh := all_hit' (inB 0 most) zs k (by rw [Hlen.out]; exact hlt)
      rw [Hall.out] at hs
      generalize zs[k]?.getD 0 = z at hcell hs hh
      have Hs : Hid ((zs.take (k + 1)).all (inB 0 most) = (true && inB 0 most z)) := hs
      have Hh : Hid (inB 0 most z = false → zs.all (inB 0 most) = false) := hh
      clear hs hh
      by_cases z0 : 0 ≤ z
      · by_cases z1 : z ≤ most
        · have hok : Hid (inB 0 most z = true) := by show inB 0 most z = true; rw [inB_true]; omega
          go_wp2
          go_round
          case rel => exact ⟨k + 1, by omega, by go_num, by rw [Hs.out, hok.out]; rfl⟩
          case measure => simp [intOf]; omega
        · have hok : Hid (inB 0 most z = false) := by show inB 0 most z = false; rw [inB_false]; omega
          go_wp2
          go_ret
          rw [Hh.out hok.out]
          exact ⟨rfl, rfl⟩
      · have hok : Hid (inB 0 most z = false) := by show inB 0 most z = false; rw [inB_false]; omega
        go_wp2
        go_ret
        rw [Hh.out hok.out]
        exact ⟨rfl, rfl⟩
    · go_wp2
      go_ret
      have : zs.take k = zs := List.take_of_length_le (by rw [Hlen.out]; omega)
      rw [← this, Hall.out]
      exact ⟨rfl, rfl⟩

theorem implUpTo1 (most n : Int) (w : World) (B : Nat) (hB : B = w.heap.size) :
    Calls Tryz.prog 57 #[.int .i64 most, .slice (some ⟨B, 0, none⟩) 1 1] (w.alloc (.cells #[.int .i64 n] 2)) fun e w' => e = .returned (.bool (inB 0 most n)) ∧ w' = w.alloc (.cells #[.int .i64 n] 2) := by
  have h := implUpTo most (some ⟨B, 0, none⟩) 1 [n] (w.alloc (.cells #[.int .i64 n] 2)) (by simp) (show Hid _ from ints_new w 2 [n] #[.int .i64 n] B hB rfl)
  simpa using h
end Go.Proofs.YtkocbfikcjgigaaGreat

/-
  The walks of slices.Index and slices.Contains on numbers, and of the program's fromOne. By the verifier.
-/
namespace Go.Proofs.YtkocbfikcjgigaaGreat
open Go.RowKit

set_option maxHeartbeats 1600000 in
theorem implIndexN (a : Option Addr) (cap : Nat) (l : List Int) (x : Int) (w : World) (hT : l.length ≤ 1048576) (h : Hid (IntsAt w a l)) :
    Calls Tryz.prog 73 #[.slice a l.length cap, .int .i64 x] w fun e w' => e = .returned (.int .i64 (if l.findIdx (fun z => decide (x = z)) < l.length then (l.findIdx (fun z => decide (x = z)) : Int) else -1)) ∧ w' = w := by
  obtain ⟨len, hlen⟩ : ∃ n, l.length = n := ⟨_, rfl⟩
  have Hlen : Hid (l.length = len) := hlen
  obtain ⟨N, hN⟩ : ∃ N, l.findIdx (fun z => decide (x = z)) = N := ⟨_, rfl⟩
  have HN : Hid (l.findIdx (fun z => decide (x = z)) = N) := hN
  have hNl : N ≤ len := by rw [← hN, ← hlen]; exact List.findIdx_le_length
  rw [hlen] at hT ⊢
  rw [hN]
  clear hlen hN
  go_enter Tryz.func73, Tryz.ntmps73
  go_wp2
  go_loop [8] (fun i => ∃ k : Nat, k ≤ N ∧ i = .int .i64 k) (fun i => len - (intOf i).toNat)
  case atStart => exact ⟨0, Nat.zero_le _, rfl⟩
  case round =>
    obtain ⟨k, hk, rfl⟩ := hrel
    by_cases hlt : k < len
    · obtain ⟨b1, o1, ha1, hb1, c0⟩ := h.out k (by rw [Hlen.out]; exact hlt)
      subst ha1
      have hkL : k < l.length := by rw [Hlen.out]; exact hlt
      rw [List.getElem?_eq_getElem hkL, Option.getD_some] at c0
      have hlt' : (k : Int) < (len : Int) := by omega
      by_cases hkN : k = N
      · have hp : x = l[k] := by
          have := List.findIdx_getElem (p := fun z => decide (x = z)) (xs := l) (w := by rw [HN.out, Hlen.out, ← hkN]; exact hlt)
          simpa only [HN.out, ← hkN, decide_eq_true_eq] using this
        rw [← hp] at c0
        clear hp hkL
        subst hkN
        go_wp2
        go_ret
        exact ⟨by first | rfl | (rw [if_pos hlt]; rfl), rfl⟩
      · have hp : ¬ x = l[k] := by
          have := List.not_of_lt_findIdx (p := fun z => decide (x = z)) (xs := l) (i := k) (by rw [HN.out]; omega)
          simpa using this
        generalize l[k] = y at c0 hp
        clear hkL
        go_wp2
        go_round
        case rel => exact ⟨k + 1, by omega, by go_num⟩
        case measure => simp [intOf]; omega
    · obtain rfl : k = len := by omega
      obtain rfl : k = N := by omega
      go_wp2
      go_ret
      exact ⟨by first | rfl | (rw [if_neg (Nat.lt_irrefl _)]; rfl), rfl⟩

set_option maxHeartbeats 1600000 in
theorem implHasN (a : Option Addr) (cap : Nat) (l : List Int) (x : Int) (w : World) (hT : l.length ≤ 1048576) (h : Hid (IntsAt w a l)) :
    Calls Tryz.prog 58 #[.slice a l.length cap, .int .i64 x] w fun e w' => e = .returned (.bool (decide (x ∈ l))) ∧ w' = w := by
  have I := implIndexN a cap l x w hT h
  have hd : decide (x ∈ l) = decide (l.findIdx (fun z => decide (x = z)) < l.length) := by
    rw [Bool.eq_iff_iff, decide_eq_true_iff, decide_eq_true_iff, List.findIdx_lt_length]
    simp
  rw [hd]
  generalize l.findIdx (fun z => decide (x = z)) = N at I ⊢
  generalize l.length = len at I ⊢
  clear hd hT h
  go_enter Tryz.func58, Tryz.ntmps58
  go_wp2_with fail
  refine I.mono ?_
  rintro e w1 ⟨rfl, rfl⟩
  clear I
  by_cases hk : N < len
  · rw [if_pos hk]
    have h0 : (0 : Int) ≤ (N : Int) := by omega
    go_wp2
    go_ret
    exact ⟨by simp [hk], rfl⟩
  · rw [if_neg hk]
    go_wp2
    go_ret
    exact ⟨by simp [hk], rfl⟩

theorem one_of (most n : Int) : (inB 0 most n && !decide ((0 : Int) ∈ [n])) = inB 1 most n := by
  rw [Bool.eq_iff_iff]
  simp only [Bool.and_eq_true, inB_true, Bool.not_eq_true', decide_eq_false_iff_not, List.mem_singleton]
  omega

set_option maxHeartbeats 1600000 in
theorem implFromOne (most n : Int) (B : Nat) (w : World) (hB : B = w.heap.size) :
    Calls Tryz.prog 26 #[.int .i64 most, .slice (some ⟨B, 0, none⟩) 1 1] (w.alloc (.cells #[.int .i64 n] 2)) fun e w' => e = .returned (.bool (inB 1 most n)) ∧ w' = w.alloc (.cells #[.int .i64 n] 2) := by
  have A1 := fun (_ : Nat) => implUpTo1 most n w B hB
  have hI : Hid (IntsAt (w.alloc (.cells #[.int .i64 n] 2)) (some ⟨B, 0, none⟩) [n]) := ints_new w 2 [n] #[.int .i64 n] B hB rfl
  have A2 := fun (_ : Nat) => implHasN (some ⟨B, 0, none⟩) 1 [n] 0 (w.alloc (.cells #[.int .i64 n] 2)) (by simp) hI
  rw [show ([n] : List Int).length = 1 from rfl] at A2
  have H := one_of most n
  generalize decide ((0 : Int) ∈ [n]) = z at A2 H
  generalize inB 0 most n = y at A1 H
  generalize inB 1 most n = x at H ⊢
  generalize w.alloc (.cells #[.int .i64 n] 2) = W at A1 A2 ⊢
  have A1' : Hid _ := A1
  have A2' : Hid _ := A2
  have HH : Hid _ := H
  clear A1 A2 H hI hB
  go_enter Tryz.func26, Tryz.ntmps26
  go_wp2_with fail
  refine (A1'.out 0).mono ?_
  rintro e w1 ⟨rfl, rfl⟩
  cases y
  · go_wp2
    go_ret
    exact ⟨ret_bool (by rw [← HH.out]; rfl), rfl⟩
  go_wp2_with fail
  refine (A2'.out 0).mono ?_
  rintro e w2 ⟨rfl, rfl⟩
  go_wp2
  go_ret
  exact ⟨ret_bool (by rw [← HH.out]; cases z <;> rfl), rfl⟩

end Go.Proofs.YtkocbfikcjgigaaGreat

/-
  The walks of the program's dues that only read: which are right, which is ahead in a heap, which lists are heaps, which rise, which is there. By the verifier.
-/
namespace Go.Proofs.YtkocbfikcjgigaaGreat
open Go.RowKit Go.Shelf

theorem implDuTime (t : Int) (w : World) :
    Calls Tryz.prog 61 #[.int .i64 t] w fun e w' => e = .returned (.bool (inB 0 1099511627776 t)) ∧ w' = w.alloc (.cells #[.int .i64 t] 2) := by
  have A1 := fun B w h => implUpTo1 1099511627776 t w B h
  generalize inB 0 1099511627776 t = b at A1 ⊢
  have A1' : Hid _ := A1
  clear A1
  go_enter Tryz.func61, Tryz.ntmps61
  go_wp2_with fail
  refine (A1'.out _ _ (by simp)).mono ?_
  rintro e w' ⟨rfl, rfl⟩
  go_wp2
  go_ret
  exact ⟨rfl, rfl⟩
set_option maxHeartbeats 1600000 in
theorem implDueOk (d : Du) (w : World) :
    Calls Tryz.prog 32 #[d.val] w fun e w' => e = .returned (.bool d.ok) ∧ Below w.heap.size w w' := by
  have Hok : Hid (d.ok = (inB 0 1099511627776 d.time && inB 1 1000000 d.id)) := rfl
  obtain ⟨t, i⟩ := d
  generalize Du.ok _ = ok at Hok ⊢
  simp only [Du.val] at Hok ⊢
  have A1 := fun w => implDuTime t w
  have A2 := fun B w h => implFromOne 1000000 i B w h
  generalize inB 0 1099511627776 t = b1 at A1 Hok
  generalize inB 1 1000000 i = b2 at A2 Hok
  have A1' : Hid _ := A1
  have A2' : Hid _ := A2
  clear A1 A2
  go_enter Tryz.func32, Tryz.ntmps32
  go_wp2_with fail
  refine (A1'.out _).mono ?_
  rintro e w' ⟨rfl, rfl⟩
  cases b1
  · go_wp2
    go_ret
    exact ⟨ret_bool (by rw [Hok.out]; rfl), ((Below.refl _ _).alloc (Nat.le_refl _) _).alloc (by simp) _⟩
  go_wp2_with fail
  refine (A2'.out _ _ (by simp)).mono ?_
  rintro e w' ⟨rfl, rfl⟩
  go_wp2
  go_ret
  exact ⟨ret_bool (by rw [Hok.out]; rfl), (((Below.refl _ _).alloc (Nat.le_refl _) _).alloc (by simp) _).alloc (by simp; omega) _⟩
set_option maxHeartbeats 1600000 in
theorem implNotDu (r : Du) (w : World) :
    Calls Tryz.prog 68 #[r.val] w fun e w' => e = .returned (.bool (!r.ok)) ∧ Below w.heap.size w w' := by
  have C := fun w => implDueOk r w
  generalize r.ok = ok at C ⊢
  obtain ⟨i, p⟩ := r
  simp only [Du.val] at C ⊢
  have C' : Hid _ := C
  clear C
  have hB : Hid (Below w.heap.size w (w.alloc (.cells #[.int .i64 i, .int .i64 p] 33))) := (Below.refl _ _).alloc (Nat.le_refl _) _
  go_enter Tryz.func68, Tryz.ntmps68
  go_wp2_with fail
  refine (C'.out _).mono ?_
  rintro e w1 ⟨rfl, b1⟩
  have B : Hid (Below w.heap.size w w1) := hB.out.trans (b1.mono hB.out.size)
  clear b1 hB
  go_wp2
  go_ret
  exact ⟨rfl, B.out⟩
theorem notDuTells (w : World) : DuTells w (fun _ => False) 68 #[] #[] (fun _ => True) (fun r => !r.ok) :=
  ⟨enters_of Tryz.func68 (by kernel_rfl) rfl, fun _ h => h.elim, fun W r _ _ => implNotDu r W⟩
set_option maxHeartbeats 1600000 in
theorem implEachDu (a : Option Addr) (cap : Nat) (l : List Du) (w : World) (hT : l.length ≤ 1048576) (h : Hid (DusAt w a l)) :
    Calls Tryz.prog 42 #[.slice a l.length cap] w fun e w' => e = .returned (.bool (l.all Du.ok)) ∧ Below w.heap.size w w' := by
  have C := fun (_ : Nat) => implContainsD a cap l 68 #[] #[] (fun _ => False) (fun _ => True) (fun r => !r.ok) w hT h (fun _ _ => trivial) (notDuTells w)
  have Ha : Hid ((!(l.any fun r => !r.ok)) = l.all Du.ok) := by
    show _ = _
    rw [List.all_eq_not_any_not]
  generalize l.all Du.ok = z at Ha ⊢
  generalize (l.any fun r => !r.ok) = y at C Ha
  generalize l.length = n at C ⊢
  have C' : Hid _ := C
  clear C h hT
  go_enter Tryz.func42, Tryz.ntmps42
  go_wp2_with fail
  refine (C'.out 0).mono ?_
  rintro e w1 ⟨rfl, b1⟩
  have B : Hid _ := b1
  clear b1
  go_wp2
  go_ret
  exact ⟨ret_bool (by rw [← Ha.out]), B.out⟩

set_option maxHeartbeats 1600000 in
set_option maxRecDepth 100000 in
theorem implLess (a : Option Addr) (cap : Nat) (l : List Du) (i j : Nat) (w : World) (hi : i < l.length) (hj : j < l.length) (h : Hid (DusAt w a l)) :
    Calls Tryz.prog 71 #[.slice a l.length cap, .int .i64 (i : Int), .int .i64 (j : Int)] w fun e w' => e = .returned (.bool (decide ((duAt l i).lt (duAt l j)))) ∧ Below w.heap.size w w' := by
  have O := fun w => implOrder (duAt l i) (duAt l j) w
  have Hd : Hid (decide ((duAt l i).lt (duAt l j)) = decide (duOrdV (duAt l i) (duAt l j) < 0)) := by
    show _ = _
    rw [decide_eq_decide]
    exact (duOrd_lt _ _).symm
  rw [Hd.out]
  clear Hd
  obtain ⟨b1, o1, ha1, hb1, -⟩ := h.out i hi
  subst ha1
  have g0 := fun p : BelW w.heap.size w => ((h.out.below p.h).cells hi).1
  have g1 := fun p : BelW w.heap.size w => ((h.out.below p.h).cells hi).2
  have f0 := fun p : BelW w.heap.size w => ((h.out.below p.h).cells hj).1
  have f1 := fun p : BelW w.heap.size w => ((h.out.below p.h).cells hj).2
  generalize duOrdV (duAt l i) (duAt l j) = z at O ⊢
  unfold Du.val at O
  generalize duAt l i = x at g0 g1 O
  generalize duAt l j = y at f0 f1 O
  have hi' : (i : Int) < (l.length : Int) := by omega
  have hj' : (j : Int) < (l.length : Int) := by omega
  generalize l.length = n at hi' hj' ⊢
  clear h hi hj
  haveI : Nonempty (BelW w.heap.size w) := ⟨⟨w, Below.refl _ _⟩⟩
  go_enter Tryz.func71, Tryz.ntmps71
  go_upto_region 1 with fail
  refine region_below w.heap.size (by kernel_rfl) (by kernel_rfl) ?_
  repeat (go_big_quiet_step ((go_at_call 79; refine quiet_below (Nat.le_refl _) (O _))))
  refine wpQuiet_nil ?_
  intro wq hx
  have hq : Hid (Below w.heap.size w wq) := BelW.out hx
  clear hx f0 f1 g0 g1 O
  go_wp2
  go_ret
  exact ⟨rfl, hq.out⟩

/-- Is none of the first n ahead of the one above it? -/
def heapK (l : List Du) (n : Nat) : Bool := (List.range n).all fun j => !(decide (0 < j) && decide ((duAt l j).lt (duAt l ((j - 1) / 2))))
theorem heapK_succ (l : List Du) (n : Nat) : heapK l (n + 1) = (heapK l n && !(decide (0 < n) && decide ((duAt l n).lt (duAt l ((n - 1) / 2))))) := by
  unfold heapK
  rw [List.range_succ, List.all_append]
  simp
theorem heapK_hit {l : List Du} {n m : Nat} (h : n < m) (g : (decide (0 < n) && decide ((duAt l n).lt (duAt l ((n - 1) / 2)))) = true) : heapK l m = false := by
  unfold heapK
  rw [List.all_eq_false]
  refine ⟨n, List.mem_range.2 h, ?_⟩
  rw [g]
  exact Bool.false_ne_true
theorem heapK_is (l : List Du) : heapK l l.length = true ↔ HpO l := by
  unfold heapK HpO
  rw [List.all_eq_true]
  constructor
  · intro h j j0 hj q
    have := h j (List.mem_range.2 hj)
    simp [j0, q] at this
  · intro h j hj
    have hj := List.mem_range.1 hj
    by_cases j0 : 0 < j
    · simp [h j j0 hj]
    · simp [j0]

end Go.Proofs.YtkocbfikcjgigaaGreat

/-
  A heap of dues in a variable, by its methods. By the verifier.
-/
namespace Go.Proofs.YtkocbfikcjgigaaGreat
open Go.RowKit Go.Shelf

theorem hpLoad {B : Nat} {v : Value} {w : World} (c : w.cell? ⟨B, 0, none⟩ = some v) : (Go.loadVar 67 ⟨B, 0, none⟩).run Tryz.prog w = .ok v w := by
  simp [Go.loadVar, run_isAgg_plain Tryz.underlying67 rfl, load, Sem.run, c]
theorem m_Len {B : Nat} {v : Value} {w : World} (c : w.cell? ⟨B, 0, none⟩ = some v) : (Go.method 251 94 (.pointer (some ⟨B, 0, none⟩)) "Len").run Tryz.prog w = .ok (117, v) w := by
  have e : (Go.method 251 94 (.pointer (some ⟨B, 0, none⟩)) "Len").run Tryz.prog w = ((do let v ← Go.loadVar 67 ⟨B, 0, none⟩; pure (117, v)) : Sem (FuncId × Value)).run Tryz.prog w := by kernel_rfl
  rw [e, Sem.run_bind, hpLoad c]
  rfl
theorem m_Less {B : Nat} {v : Value} {w : World} (c : w.cell? ⟨B, 0, none⟩ = some v) : (Go.method 251 94 (.pointer (some ⟨B, 0, none⟩)) "Less").run Tryz.prog w = .ok (71, v) w := by
  have e : (Go.method 251 94 (.pointer (some ⟨B, 0, none⟩)) "Less").run Tryz.prog w = ((do let v ← Go.loadVar 67 ⟨B, 0, none⟩; pure (71, v)) : Sem (FuncId × Value)).run Tryz.prog w := by kernel_rfl
  rw [e, Sem.run_bind, hpLoad c]
  rfl
theorem m_Swap {B : Nat} {v : Value} {w : World} (c : w.cell? ⟨B, 0, none⟩ = some v) : (Go.method 251 94 (.pointer (some ⟨B, 0, none⟩)) "Swap").run Tryz.prog w = .ok (118, v) w := by
  have e : (Go.method 251 94 (.pointer (some ⟨B, 0, none⟩)) "Swap").run Tryz.prog w = ((do let v ← Go.loadVar 67 ⟨B, 0, none⟩; pure (118, v)) : Sem (FuncId × Value)).run Tryz.prog w := by kernel_rfl
  rw [e, Sem.run_bind, hpLoad c]
  rfl
theorem m_Push (p : Value) (w : World) : (Go.method 251 94 p "Push").run Tryz.prog w = .ok (120, p) w := by kernel_rfl
theorem m_Pop (p : Value) (w : World) : (Go.method 251 94 p "Pop").run Tryz.prog w = .ok (119, p) w := by kernel_rfl
end Go.Proofs.YtkocbfikcjgigaaGreat

import Derived.Test.YtfkkmjejmflgjaaQ3RtNet
import Derived.Test.YtfkkmjejmflgjaaQ11Quiet
import Derived.Test.YtfkkmjejmflgjaaQ0SrPlain
import Derived.Test.YtfkkmjejmflgjaaQ2SsV
import Derived.Test.YtfkkmjejmflgjaaQ9StepRow
import Derived.Laws.ResultCell
import Derived.Laws.CopyOwn
import Derived.WalkKit
import Derived.WalkSpells
import Derived.WalkLawsBesides
import Derived.RegionTactic
import Derived.Test.YtfkkmjejmflgjaaQ7GtFn
import Derived.BigQuiet
/-
  The walks of slices.Index and slices.Contains on numbers, and of the program's fromOne. By the verifier.
-/
namespace Go.Proofs.Ytfkkmjejmflgjaa
open Go.RowKit

set_option maxHeartbeats 1600000 in
theorem implIndexN (a : Option Addr) (cap : Nat) (l : List Int) (x : Int) (w : World) (hT : l.length ≤ 1048576) (h : Hid (IntsAt w a l)) :
    Calls Try.prog 87 #[.slice a l.length cap, .int .i64 x] w fun e w' => e = .returned (.int .i64 (if l.findIdx (fun z => decide (x = z)) < l.length then (l.findIdx (fun z => decide (x = z)) : Int) else -1)) ∧ w' = w := by
  obtain ⟨len, hlen⟩ : ∃ n, l.length = n := ⟨_, rfl⟩
  have Hlen : Hid (l.length = len) := hlen
  obtain ⟨N, hN⟩ : ∃ N, l.findIdx (fun z => decide (x = z)) = N := ⟨_, rfl⟩
  have HN : Hid (l.findIdx (fun z => decide (x = z)) = N) := hN
  have hNl : N ≤ len := by rw [← hN, ← hlen]; exact List.findIdx_le_length
  rw [hlen] at hT ⊢
  rw [hN]
  clear hlen hN
  go_enter Try.func87, Try.ntmps87
  go_wp2
  go_loop [8] (fun i => ∃ k : Nat, k ≤ N ∧ i = .int .i64 k) (fun i => len - (intOf i).toNat)
  case atStart => exact ⟨0, Nat.zero_le _, rfl⟩
  case round =>
    obtain ⟨k, hk, rfl⟩ := hrel
    by_cases hlt : k < len
    · obtain ⟨b1, o1, ha1, hb1, c0⟩ := h.out k (by rw [Hlen.out]; exact hlt)
      subst ha1
      have hkL : k < l.length := by rw [Hlen.out]; exact hlt
      rw [List.getElem?_eq_getElem hkL, Option.getD_some] at c0
      have hlt' : (k : Int) < (len : Int) := by omega
      by_cases hkN : k = N
      · have hp : x = l[k] := by
          have := List.findIdx_getElem (p := fun z => decide (x = z)) (xs := l) (w := by rw [HN.out, Hlen.out, ← hkN]; exact hlt)
          simpa only [HN.out, ← hkN, decide_eq_true_eq] using this
        rw [← hp] at c0
        clear hp hkL
        subst hkN
        go_wp2
        go_ret
        exact ⟨by first | rfl | (rw [if_pos hlt]; rfl), rfl⟩
      · have hp : ¬ x = l[k] := by
          have := List.not_of_lt_findIdx (p := fun z => decide (x = z)) (xs := l) (i := k) (by rw [HN.out]; omega)
          simpa using this
        generalize l[k] = y at c0 hp
        clear hkL
        go_wp2
        go_round
        case rel => exact ⟨k + 1, by omega, by go_num⟩
        case measure => simp [intOf]; omega
    · obtain rfl : k = len := by omega
      obtain rfl : k = N := by omega
      go_wp2
      go_ret
      exact ⟨by first | rfl | (rw [if_neg (Nat.lt_irrefl _)]; rfl), rfl⟩

set_option maxHeartbeats 1600000 in
theorem implHasN (a : Option Addr) (cap : Nat) (l : List Int) (x : Int) (w : World) (hT : l.length ≤ 1048576) (h : Hid (IntsAt w a l)) :
    Calls Try.prog 77 #[.slice a l.length cap, .int .i64 x] w fun e w' => e = .returned (.bool (decide (x ∈ l))) ∧ w' = w := by
  have I := implIndexN a cap l x w hT h
  have hd : decide (x ∈ l) = decide (l.findIdx (fun z => decide (x = z)) < l.length) := by
    rw [Bool.eq_iff_iff, decide_eq_true_iff, decide_eq_true_iff, List.findIdx_lt_length]
    simp
  rw [hd]
  generalize l.findIdx (fun z => decide (x = z)) = N at I ⊢
  generalize l.length = len at I ⊢
  clear hd hT h
  go_enter Try.func77, Try.ntmps77
  go_wp2_with fail
  refine I.mono ?_
  rintro e w1 ⟨rfl, rfl⟩
  clear I
  by_cases hk : N < len
  · rw [if_pos hk]
    have h0 : (0 : Int) ≤ (N : Int) := by omega
    go_wp2
    go_ret
    exact ⟨by simp [hk], rfl⟩
  · rw [if_neg hk]
    go_wp2
    go_ret
    exact ⟨by simp [hk], rfl⟩

theorem one_of (most n : Int) : (inB 0 most n && !decide ((0 : Int) ∈ [n])) = inB 1 most n := by
  rw [Bool.eq_iff_iff]
  simp only [Bool.and_eq_true, inB_true, Bool.not_eq_true', decide_eq_false_iff_not, List.mem_singleton]
  omega

set_option maxHeartbeats 1600000 in
theorem implFromOne (most n : Int) (B : Nat) (w : World) (hB : B = w.heap.size) :
    Calls Try.prog 56 #[.int .i64 most, .slice (some ⟨B, 0, none⟩) 1 1] (w.alloc (.cells #[.int .i64 n] 2)) fun e w' => e = .returned (.bool (inB 1 most n)) ∧ w' = w.alloc (.cells #[.int .i64 n] 2) := by
  have A1 := fun (_ : Nat) => implUpTo1 most n w B hB
  have hI : Hid (IntsAt (w.alloc (.cells #[.int .i64 n] 2)) (some ⟨B, 0, none⟩) [n]) := ints_new w 2 [n] #[.int .i64 n] B hB rfl
  have A2 := fun (_ : Nat) => implHasN (some ⟨B, 0, none⟩) 1 [n] 0 (w.alloc (.cells #[.int .i64 n] 2)) (by simp) hI
  rw [show ([n] : List Int).length = 1 from rfl] at A2
  have H := one_of most n
  generalize decide ((0 : Int) ∈ [n]) = z at A2 H
  generalize inB 0 most n = y at A1 H
  generalize inB 1 most n = x at H ⊢
  generalize w.alloc (.cells #[.int .i64 n] 2) = W at A1 A2 ⊢
  have A1' : Hid _ := A1
  have A2' : Hid _ := A2
  have HH : Hid _ := H
  clear A1 A2 H hI hB
  go_enter Try.func56, Try.ntmps56
  go_wp2_with fail
  refine (A1'.out 0).mono ?_
  rintro e w1 ⟨rfl, rfl⟩
  cases y
  · go_wp2
    go_ret
    exact ⟨ret_bool (by rw [← HH.out]; rfl), rfl⟩
  go_wp2_with fail
  refine (A2'.out 0).mono ?_
  rintro e w2 ⟨rfl, rfl⟩
  go_wp2
  go_ret
  exact ⟨ret_bool (by rw [← HH.out]; cases z <;> rfl), rfl⟩

end Go.Proofs.Ytfkkmjejmflgjaa

/-
  The walk of the program's isPlace. By the verifier.
-/
namespace Go.Proofs.Ytfkkmjejmflgjaa
open Go.RowKit

set_option maxHeartbeats 1600000 in
theorem implPlace (n : Nat) (p : Int) (w : World) (hn : n ≤ 1048576) :
    Calls Try.prog 59 #[.int .i64 (n : Int), .int .i64 p] w fun e w' => e = .returned (.bool (inB 0 ((n : Int) - 1) p)) ∧ w' = w.alloc (.cells #[.int .i64 p] 2) := by
  have A := fun B w h => implUpTo1 ((n : Int) - 1) p w B h
  generalize inB 0 ((n : Int) - 1) p = y at A ⊢
  have A' : Hid _ := A
  clear A
  have q1 : -9223372036854775808 ≤ (n : Int) - 1 := by omega
  have q2 : (n : Int) - 1 ≤ 9223372036854775807 := by omega
  go_enter Try.func59, Try.ntmps59
  go_wp2_with fail
  refine (A'.out _ _ (by simp)).mono ?_
  rintro e w' ⟨rfl, rfl⟩
  go_wp2
  go_ret
  exact ⟨rfl, rfl⟩
end Go.Proofs.Ytfkkmjejmflgjaa

/-
  The walks of the program's purses: PurseOk, Filled, Spent, When. By the verifier.
-/
namespace Go.Proofs.Ytfkkmjejmflgjaa
open Go.RowKit

theorem implTime (t : Int) (w : World) :
    Calls Try.prog 78 #[.int .i64 t] w fun e w' => e = .returned (.bool (inB 0 1099511627776 t)) ∧ w' = w.alloc (.cells #[.int .i64 t] 2) := by
  have A1 := fun B w h => implUpTo1 1099511627776 t w B h
  generalize inB 0 1099511627776 t = b1 at A1 ⊢
  have A1' : Hid _ := A1
  clear A1
  go_enter Try.func78, Try.ntmps78
  go_wp2_with fail
  refine (A1'.out _ _ (by simp)).mono ?_
  rintro e w' ⟨rfl, rfl⟩
  go_wp2
  go_ret
  exact ⟨rfl, rfl⟩
set_option maxHeartbeats 1600000 in
theorem implPurseOk (p : Pz) (w : World) :
    Calls Try.prog 58 #[p.val] w fun e w' => e = .returned (.bool p.ok) ∧ Below w.heap.size w w' := by
  have Hok : Hid (p.ok = (inB 0 1000 p.rate && (inB 1 100000 p.burst && (inB 0 p.burst p.level && inB 0 1099511627776 p.tm)))) := rfl
  obtain ⟨v0, v1, v2, v3⟩ := p
  generalize Pz.ok _ = ok at Hok ⊢
  simp only [Pz.val] at Hok ⊢
  have A1 := fun B w h => implUpTo1 1000 v0 w B h
  have A2 := fun B w h => implFromOne 100000 v1 B w h
  have A3 := fun B w h => implUpTo1 v1 v2 w B h
  have A4 := fun w => implTime v3 w
  generalize inB 0 1000 v0 = b1 at A1 Hok
  generalize inB 1 100000 v1 = b2 at A2 Hok
  generalize inB 0 v1 v2 = b3 at A3 Hok
  generalize inB 0 1099511627776 v3 = b4 at A4 Hok
  have A1' : Hid _ := A1
  have A2' : Hid _ := A2
  have A3' : Hid _ := A3
  have A4' : Hid _ := A4
  clear A1 A2 A3 A4
  go_enter Try.func58, Try.ntmps58
  go_wp2_with fail
  refine (A1'.out _ _ (by simp)).mono ?_
  rintro e w' ⟨rfl, rfl⟩
  cases b1
  · go_wp2
    go_ret
    exact ⟨ret_bool (by rw [Hok.out]; rfl), by repeat (first | exact Below.refl _ _ | refine Below.alloc ?_ (by simp <;> omega) _)⟩
  go_wp2_with fail
  refine (A2'.out _ _ (by simp)).mono ?_
  rintro e w' ⟨rfl, rfl⟩
  cases b2
  · go_wp2
    go_ret
    exact ⟨ret_bool (by rw [Hok.out]; rfl), by repeat (first | exact Below.refl _ _ | refine Below.alloc ?_ (by simp <;> omega) _)⟩
  go_wp2_with fail
  refine (A3'.out _ _ (by simp)).mono ?_
  rintro e w' ⟨rfl, rfl⟩
  cases b3
  · go_wp2
    go_ret
    exact ⟨ret_bool (by rw [Hok.out]; rfl), by repeat (first | exact Below.refl _ _ | refine Below.alloc ?_ (by simp <;> omega) _)⟩
  go_wp2_with fail
  refine (A4'.out _).mono ?_
  rintro e w' ⟨rfl, rfl⟩
  go_wp2
  go_ret
  exact ⟨ret_bool (by rw [Hok.out]; rfl), by repeat (first | exact Below.refl _ _ | refine Below.alloc ?_ (by simp <;> omega) _)⟩

end Go.Proofs.Ytfkkmjejmflgjaa

/-
  The walks of the program's upOk and TreeOk. By the verifier.
-/
namespace Go.Proofs.Ytfkkmjejmflgjaa
open Go.RowKit

/-- Is the Up of a number right? -/
def upB (k : Nat) (up : Int) : Bool := if k = 0 then decide (up = -1) else (decide (0 ≤ up) && decide (up < (k : Int)))
theorem upB_in {k : Nat} {up : Int} (h : k ≠ 0) : inB 0 ((k : Int) - 1) up = upB k up := by
  unfold upB
  rw [if_neg h, Bool.eq_iff_iff, inB_true]
  simp only [Bool.and_eq_true, decide_eq_true_eq]
  omega
set_option maxHeartbeats 1600000 in
theorem implUpOk (k : Nat) (up : Int) (w : World) (hk : k ≤ 1048576) :
    Calls Try.prog 57 #[.int .i64 (k : Int), .int .i64 up] w fun e w' => e = .returned (.bool (upB k up)) ∧ Below w.heap.size w w' := by
  by_cases h0 : k = 0
  · subst h0
    have e0 : upB 0 up = decide (up = -1) := rfl
    rw [e0]
    by_cases h1 : up = -1
    · subst h1
      go_enter Try.func57, Try.ntmps57
      go_wp2
      go_ret
      exact ⟨rfl, Below.refl _ _⟩
    · have h1' : (up == -1) = false := by simpa using h1
      rw [decide_eq_false h1]
      go_enter Try.func57, Try.ntmps57
      go_wp2
      go_ret
      exact ⟨by first | rfl | simp [h1], Below.refl _ _⟩
  · have A := fun w => implPlace k up w hk
    rw [upB_in h0] at A
    generalize upB k up = y at A ⊢
    have A' : Hid _ := A
    clear A
    have h0' : ¬ (k : Int) = 0 := by omega
    go_enter Try.func57, Try.ntmps57
    go_wp2_with fail
    refine (A'.out _).mono ?_
    rintro e w' ⟨rfl, rfl⟩
    go_wp2
    go_ret
    exact ⟨rfl, (Below.refl _ _).alloc (Nat.le_refl _) _⟩

set_option maxHeartbeats 3200000 in
set_option maxRecDepth 100000 in
theorem implTreeOk (l : List Nd) (a : Option Addr) (cap : Nat) (w : World) (hT : l.length ≤ 1048576) (_hc : l.length ≤ cap) (_hcn : a = none → cap = 0) (h : Hid (NdsAt w a l)) :
    Calls Try.prog 20 #[.slice a l.length cap] w fun e w' => e = .returned (.bool (tok l)) ∧ Below w.heap.size w w' := by
  obtain ⟨R, hR⟩ : ∃ R, tok l = R := ⟨_, rfl⟩
  have Yes : Hid (inB 1 12 (l.length : Int) = true → (∀ k, k < l.length → treeB l k = true) → R = true) := fun h1 h3 => by rw [← hR]; rw [inB_true] at h1; exact tok_iff.2 ⟨by omega, by omega, h3⟩
  have No : Hid (∀ k, k < l.length → treeB l k = false → R = false) := fun k hk hn => by
    rw [← hR]
    cases hq : tok l with
    | false => rfl
    | true => rw [(tok_iff.1 hq).2.2 k hk] at hn; cases hn
  have No6 : Hid (inB 1 12 (l.length : Int) = false → R = false) := fun hn => by
    rw [← hR]
    rw [inB_false] at hn
    cases hq : tok l with
    | false => rfl
    | true => have := (tok_iff.1 hq); omega
  have A0 := fun B w hh => implFromOne 12 (l.length : Int) B w hh
  rw [hR]
  clear hR _hc _hcn
  have Hpos : Hid (inB 1 12 (l.length : Int) = true → l.length ≤ 12) := fun h => by rw [inB_true] at h; omega
  generalize inB 1 12 (l.length : Int) = b0 at A0 Yes No6 Hpos
  obtain ⟨len, hlen⟩ : ∃ n, l.length = n := ⟨_, rfl⟩
  rw [hlen] at hT Yes No A0 Hpos ⊢
  have Hlen : Hid (l.length = len) := hlen
  have A0' : Hid _ := A0
  clear hlen A0
  go_enter Try.func20, Try.ntmps20
  go_wp2_with fail
  refine (A0'.out _ _ (by simp)).mono ?_
  rintro e w1 ⟨rfl, hw1⟩
  have B1 : Hid (Below w.heap.size w w1) := by show Below _ _ _; rw [hw1]; exact (Below.refl _ _).alloc (Nat.le_refl _) _
  clear hw1 A0'
  cases b0
  · have e : R = false := No6.out rfl
    subst e
    go_wp2
    go_ret
    exact ⟨rfl, B1.out⟩
  have h12 := Hpos.out rfl
  go_wp2
  go_loopw [12] (fun s wr => ∃ k : Nat, k ≤ len ∧ s = .int .i64 k ∧ Hid ((∀ j, j < k → treeB l j = true) ∧ Below w.heap.size w wr)) (fun s _ => len - (intOf s).toNat)
  case atStart => exact ⟨0, Nat.zero_le _, rfl, fun j hj => by omega, B1.out⟩
  case round =>
    obtain ⟨k, hk, rfl, HK⟩ := hrel
    clear B1
    by_cases hlt : k < len
    case neg =>
      obtain rfl : k = len := by omega
      have e : R = true := Yes.out (by first | exact trivial | exact rfl) HK.out.1
      subst e
      go_wp2
      go_ret
      exact ⟨rfl, HK.out.2⟩
    have hlt' : (k : Int) < (len : Int) := by omega
    have Lie : Hid (NdsAt wr a l) := h.out.below HK.out.2
    obtain ⟨b1, o1, ha1, hb1, -⟩ := Lie.out k (by rw [Hlen.out]; exact hlt)
    subst ha1
    obtain ⟨c0, c1, c2, c3, c4⟩ := Lie.out.cells (k := k) (by rw [Hlen.out]; exact hlt)
    have e4 := (Lie.out.cells (k := 0) (by rw [Hlen.out]; omega)).2.2.2.2
    have A1 := fun w => implPurseOk (ndAt l k).pz w
    have A2 := fun w => implUpOk k (ndAt l k).up w (by omega)
    have Gd : Hid (treeB l k = ((ndAt l k).pz.ok && (decide ((ndAt l k).pz.tm = (ndAt l 0).pz.tm) && upB k (ndAt l k).up))) := rfl
    have Nk := No.out k hlt
    have Yk : Hid (treeB l k = true → ∀ j, j < k + 1 → treeB l j = true) := fun hg j hj => by
      by_cases e : j = k
      · rw [e]; exact hg
      · exact HK.out.1 j (by omega)
    generalize treeB l k = good at Gd Nk Yk
    generalize (ndAt l 0).pz.tm = t0 at e4 Gd
    generalize (ndAt l k).pz.ok = ok at A1 Gd
    generalize upB k (ndAt l k).up = ub at A2 Gd
    generalize ndAt l k = x at c0 c1 c2 c3 c4 A1 A2 Gd
    obtain ⟨x0, x1, x2, x3, x4⟩ := x
    simp only [Pz.val] at c0 c1 c2 c3 c4 A1 A2 Gd
    have A1' : Hid _ := A1
    have A2' : Hid _ := A2
    have HN : Hid (good = false → R = false) := Nk
    have Bw : Hid (Below w.heap.size w wr) := HK.out.2
    clear A1 A2 Nk
    obtain ⟨g, hg⟩ : ∃ g, g = wr.heap.size := ⟨_, rfl⟩
    have N : Hid (Boxed (wr.alloc (.cells #[.int .i64 0, .int .i64 0, .int .i64 0, .int .i64 0, .int .i64 0] 60)) wr.heap.size #[.int .i64 0, .int .i64 0, .int .i64 0, .int .i64 0, .int .i64 0] 60) := Boxed.new _ _ _
    have X : Hid (Boxed ((wr.alloc (.cells #[.int .i64 0, .int .i64 0, .int .i64 0, .int .i64 0, .int .i64 0] 60)).setRow wr.heap.size #[.int .i64 x0, .int .i64 x1, .int .i64 x2, .int .i64 x3, .int .i64 x4]) wr.heap.size #[.int .i64 x0, .int .i64 x1, .int .i64 x2, .int .i64 x3, .int .i64 x4] 60 ∧ Below wr.heap.size wr ((wr.alloc (.cells #[.int .i64 0, .int .i64 0, .int .i64 0, .int .i64 0, .int .i64 0] 60)).setRow wr.heap.size #[.int .i64 x0, .int .i64 x1, .int .i64 x2, .int .i64 x3, .int .i64 x4])) := ⟨setRow_heap _ _ _ _ _ _ (Boxed.new _ _ _), below_setRow ((Below.refl _ _).alloc (Nat.le_refl _) _) (Nat.le_refl _) _⟩
    go_upto_region 6 with (refine wpList_store_row rfl 60 (.tmp _) (.tmp _) rfl wr.heap.size #[.int .i64 x0, .int .i64 x1, .int .i64 x2, .int .i64 x3, .int .i64 x4] rfl rfl _ _ N.out (by kernel_rfl) rfl (ndOnes _ _ _ _ _) ?_)
    clear c0 c1 c2 c3 c4 N
    simp only [Act.put]
    generalize (wr.alloc (.cells #[.int .i64 0, .int .i64 0, .int .i64 0, .int .i64 0, .int .i64 0] 60)).setRow wr.heap.size #[.int .i64 x0, .int .i64 x1, .int .i64 x2, .int .i64 x3, .int .i64 x4] = wx at X ⊢
    rw [← hg] at X ⊢
    have d0 : ∀ p : BelW wx.heap.size wx, p.w'.cell? ⟨g, 0, none⟩ = some (.int .i64 x0) := fun p => (X.out.1.below X.out.1.under p.h).cell 0 rfl
    have d1 : ∀ p : BelW wx.heap.size wx, p.w'.cell? ⟨g, 1, none⟩ = some (.int .i64 x1) := fun p => (X.out.1.below X.out.1.under p.h).cell 1 rfl
    have d2 : ∀ p : BelW wx.heap.size wx, p.w'.cell? ⟨g, 2, none⟩ = some (.int .i64 x2) := fun p => (X.out.1.below X.out.1.under p.h).cell 2 rfl
    have d3 : ∀ p : BelW wx.heap.size wx, p.w'.cell? ⟨g, 3, none⟩ = some (.int .i64 x3) := fun p => (X.out.1.below X.out.1.under p.h).cell 3 rfl
    have d4 : ∀ p : BelW wx.heap.size wx, p.w'.cell? ⟨g, 4, none⟩ = some (.int .i64 x4) := fun p => (X.out.1.below X.out.1.under p.h).cell 4 rfl
    have hbl : Hid (b1 < wr.heap.size) := hb1
    have f4 : ∀ p : BelW wx.heap.size wx, p.w'.cell? ⟨b1, o1 + 4, none⟩ = some (.int .i64 t0) := fun p => by
      have hX : Below wr.heap.size wr wx := by rw [← hg]; exact X.out.2
      rw [(hX.trans (p.h.mono hX.size)).cell (p := ⟨b1, o1 + 4, none⟩) hbl.out]
      simpa using e4
    have step : Hid (∀ w2, Below wx.heap.size wx w2 → Below w.heap.size w w2) := fun w2 q => by
      have hX : Below wr.heap.size wr wx := by rw [← hg]; exact X.out.2
      exact Bw.out.trans ((hX.trans (q.mono hX.size)).mono Bw.out.size)
    clear hg HK Lie e4 hb1 X Bw
    haveI : Nonempty (BelW wx.heap.size wx) := ⟨⟨wx, Below.refl _ _⟩⟩
    cases ub
    · have e : R = false := HN.out (by rw [Gd.out]; simp)
      subst e
      clear Gd Yk HN
      refine region_below wx.heap.size (by kernel_rfl) (by kernel_rfl) ?_
      repeat (go_big_quiet_step ((first | (go_at_call 58; with_reducible refine quiet_below (Nat.le_refl _) (A1'.out _)) | (go_at_call 57; with_reducible refine quiet_below (Nat.le_refl _) (A2'.out _)))))
      refine wpQuiet_nil ?_
      intro w2 hx
      have B2 : Hid (Below w.heap.size w w2) := step.out w2 (BelW.out hx)
      clear hx d0 d1 d2 d3 d4 f4
      go_wp2
      go_ret
      exact ⟨rfl, B2.out⟩
    cases ok
    · have e : R = false := HN.out (by rw [Gd.out]; rfl)
      subst e
      clear Gd Yk HN
      refine region_below wx.heap.size (by kernel_rfl) (by kernel_rfl) ?_
      repeat (go_big_quiet_step ((first | (go_at_call 58; with_reducible refine quiet_below (Nat.le_refl _) (A1'.out _)) | (go_at_call 57; with_reducible refine quiet_below (Nat.le_refl _) (A2'.out _)))))
      refine wpQuiet_nil ?_
      intro w2 hx
      have B2 : Hid (Below w.heap.size w w2) := step.out w2 (BelW.out hx)
      clear hx d0 d1 d2 d3 d4 f4
      go_wp2
      go_ret
      exact ⟨rfl, B2.out⟩
    by_cases ht : x4 = t0
    case neg =>
      have ht' : (x4 != t0) = true := by simpa using ht
      have e : R = false := HN.out (by rw [Gd.out]; simp [ht])
      subst e
      clear Gd Yk HN
      refine region_below wx.heap.size (by kernel_rfl) (by kernel_rfl) ?_
      repeat (go_big_quiet_step ((first | (go_at_call 58; with_reducible refine quiet_below (Nat.le_refl _) (A1'.out _)) | (go_at_call 57; with_reducible refine quiet_below (Nat.le_refl _) (A2'.out _)))))
      refine wpQuiet_nil ?_
      intro w2 hx
      have B2 : Hid (Below w.heap.size w w2) := step.out w2 (BelW.out hx)
      clear hx d0 d1 d2 d3 d4 f4
      go_wp2
      go_ret
      exact ⟨rfl, B2.out⟩
    subst ht
    have G : Hid (∀ j, j < k + 1 → treeB l j = true) := Yk.out (by rw [Gd.out]; simp)
    clear Gd Yk HN
    refine region_below wx.heap.size (by kernel_rfl) (by kernel_rfl) ?_
    repeat (go_big_quiet_step ((first | (go_at_call 58; with_reducible refine quiet_below (Nat.le_refl _) (A1'.out _)) | (go_at_call 57; with_reducible refine quiet_below (Nat.le_refl _) (A2'.out _)))))
    refine wpQuiet_nil ?_
    intro w2 hx
    have B2 : Hid (Below w.heap.size w w2) := step.out w2 (BelW.out hx)
    clear hx d0 d1 d2 d3 d4 f4
    go_wp2
    go_roundw
    case rel => exact ⟨k + 1, by omega, by go_num, G.out, B2.out⟩
    case measure => simp [intOf]; omega
end Go.Proofs.Ytfkkmjejmflgjaa

/-
  The walks of slices.Index and slices.Contains on places, and of the function that tells which routes go. By the verifier.
-/
import Derived.Test.YtilnjmpnhadidaaCpFunc
import Derived.Test.YtilnjmpnhadidaaQuiet
import Derived.BigQuiet
namespace Go.Proofs.Ytilnjmpnhadidaa
open Go.RowKit Go.Maps

/-- Places in a row. -/
def PlsAt (w : World) (G : Nat) (L : List (Int × Int)) : Prop := ∀ k, (h : k < L.length) → w.cell? ⟨G, k * 2, none⟩ = some (.int .i64 L[k].1) ∧ w.cell? ⟨G, k * 2 + 1, none⟩ = some (.int .i64 L[k].2)
theorem PlsAt.same {w w' : World} {G : Nat} {L : List (Int × Int)} (h : PlsAt w G L) (e : w'.heap[G]? = w.heap[G]?) : PlsAt w' G L := by
  intro k hk
  obtain ⟨h1, h2⟩ := h k hk
  exact ⟨by rw [World.cell?_of_block (w := w) (a := ⟨G, k * 2, none⟩) e]; exact h1, by rw [World.cell?_of_block (w := w) (a := ⟨G, k * 2 + 1, none⟩) e]; exact h2⟩

set_option maxHeartbeats 1600000 in
theorem implIndexP (G cap : Nat) (L : List (Int × Int)) (n b : Int) (w : World) (hT : L.length ≤ 64) (hG : G < w.heap.size) (h : Hid (PlsAt w G L)) :
    Calls Try.prog 83 #[.slice (some ⟨G, 0, none⟩) L.length cap, pv n b] w fun e w' => e = .returned (.int .i64 (if L.findIdx (fun q => decide (n = q.1) && decide (b = q.2)) < L.length then (L.findIdx (fun q => decide (n = q.1) && decide (b = q.2)) : Int) else -1)) ∧ Below w.heap.size w w' := by
  unfold pv
  obtain ⟨len, hlen⟩ : ∃ n, L.length = n := ⟨_, rfl⟩
  have Hlen : Hid (L.length = len) := hlen
  obtain ⟨N, hN⟩ : ∃ N, L.findIdx (fun q => decide (n = q.1) && decide (b = q.2)) = N := ⟨_, rfl⟩
  have HN : Hid (L.findIdx (fun q => decide (n = q.1) && decide (b = q.2)) = N) := hN
  have hNl : N ≤ len := by rw [← hN, ← hlen]; exact List.findIdx_le_length
  rw [hlen] at hT ⊢
  rw [hN]
  clear hlen hN
  obtain ⟨B, hB⟩ : ∃ B, B = w.heap.size := ⟨_, rfl⟩
  have HB : Hid (B = w.heap.size) := hB
  have X0 : Hid (Boxed (w.alloc (.cells #[.int .i64 n, .int .i64 b] 67)) B #[.int .i64 n, .int .i64 b] 67 ∧ PlsAt (w.alloc (.cells #[.int .i64 n, .int .i64 b] 67)) G L ∧ Below w.heap.size w (w.alloc (.cells #[.int .i64 n, .int .i64 b] 67))) := ⟨by rw [hB]; exact Boxed.new _ _ _, h.out.same (Below.heap_alloc _ _ _ hG), (Below.refl _ _).alloc (Nat.le_refl _) _⟩
  go_enter Try.func83, Try.ntmps83
  go_wp2
  rw [← hB]
  have hGB : G < B := by omega
  clear hB
  generalize w.alloc (.cells #[.int .i64 n, .int .i64 b] 67) = w0 at X0 ⊢
  go_loopw [8] (fun i wr => ∃ k : Nat, k ≤ N ∧ i = .int .i64 k ∧ Hid (Below w0.heap.size w0 wr)) (fun i _ => len - (intOf i).toNat)
  case atStart => exact ⟨0, Nat.zero_le _, rfl, Below.refl _ _⟩
  case round =>
    obtain ⟨k, hk, rfl, H1⟩ := hrel
    have hGw : G < w0.heap.size := Nat.lt_trans hGB X0.out.1.under
    have x0 : wr.cell? ⟨B, 0, none⟩ = some (.int .i64 n) := (X0.out.1.below X0.out.1.under H1.out).cell 0 rfl
    have x1 : wr.cell? ⟨B, 1, none⟩ = some (.int .i64 b) := (X0.out.1.below X0.out.1.under H1.out).cell 1 rfl
    by_cases hlt : k < len
    · have hkL : k < L.length := by rw [Hlen.out]; exact hlt
      obtain ⟨c0, c1⟩ := (X0.out.2.1.same (H1.out.block G hGw)) k hkL
      have hlt' : (k : Int) < (len : Int) := by omega
      by_cases hkN : k = N
      · have hp : (decide (n = L[k].1) && decide (b = L[k].2)) = true := by
          have := List.findIdx_getElem (p := fun q : Int × Int => decide (n = q.1) && decide (b = q.2)) (xs := L) (w := by rw [HN.out, Hlen.out, ← hkN]; exact hlt)
          simpa only [HN.out, ← hkN] using this
        rw [Bool.and_eq_true, decide_eq_true_iff, decide_eq_true_iff] at hp
        rw [← hp.1] at c0
        rw [← hp.2] at c1
        clear hp hkL
        subst hkN
        go_wp2_with fail
        go_region
        go_wp2
        go_ret
        exact ⟨by first | rfl | (rw [if_pos hlt]; rfl), by have := X0.out.2.2; exact (this.trans (H1.out.mono this.size)).drew⟩
      · have hp : ¬ (n = L[k].1 ∧ b = L[k].2) := by
          have := List.not_of_lt_findIdx (p := fun q : Int × Int => decide (n = q.1) && decide (b = q.2)) (xs := L) (i := k) (by rw [HN.out]; omega)
          simpa using this
        generalize L[k].1 = y0 at c0 hp
        generalize L[k].2 = y1 at c1 hp
        clear hkL
        by_cases e1 : n = y0
        · have e2 : ¬ b = y1 := fun e => hp ⟨e1, e⟩
          subst e1
          clear hp
          go_wp2_with fail
          go_region
          go_wp2
          go_roundw
          case rel => exact ⟨k + 1, by omega, by go_num, H1.out.drew⟩
          case measure => simp [intOf]; omega
        · clear hp
          go_wp2_with fail
          go_region
          go_wp2
          go_roundw
          case rel => exact ⟨k + 1, by omega, by go_num, H1.out.drew⟩
          case measure => simp [intOf]; omega
    · obtain rfl : k = len := by omega
      obtain rfl : k = N := by omega
      go_wp2
      go_ret
      exact ⟨by first | rfl | (rw [if_neg (Nat.lt_irrefl _)]; rfl), by have := X0.out.2.2; exact this.trans (H1.out.mono this.size)⟩

set_option maxHeartbeats 1600000 in
theorem implHasP (G cap : Nat) (L : List (Int × Int)) (n b : Int) (w : World) (hT : L.length ≤ 64) (hG : G < w.heap.size) (h : Hid (PlsAt w G L)) :
    Calls Try.prog 59 #[.slice (some ⟨G, 0, none⟩) L.length cap, pv n b] w fun e w' => e = .returned (.bool (decide ((n, b) ∈ L))) ∧ Below w.heap.size w w' := by
  have I := fun w hG h => implIndexP G cap L n b w hT hG h
  obtain ⟨N, hN⟩ : ∃ N, L.findIdx (fun q => decide (n = q.1) && decide (b = q.2)) = N := ⟨_, rfl⟩
  have hd : decide ((n, b) ∈ L) = decide (N < L.length) := by
    rw [← hN]
    congr 1
    rw [List.findIdx_lt_length]
    apply propext
    constructor
    · intro hm
      exact ⟨_, hm, by simp⟩
    · rintro ⟨q, hq, e⟩
      rw [Bool.and_eq_true, decide_eq_true_iff, decide_eq_true_iff] at e
      rw [e.1, e.2]
      exact hq
  rw [hd]
  simp only [hN] at I
  clear hN hd
  unfold pv at I ⊢
  have hs : (w.alloc (.cells #[.int .i64 n, .int .i64 b] 67)).heap.size = w.heap.size + 1 := by simp
  have H0 : Hid (G < (w.alloc (.cells #[.int .i64 n, .int .i64 b] 67)).heap.size ∧ PlsAt (w.alloc (.cells #[.int .i64 n, .int .i64 b] 67)) G L) := ⟨by rw [hs]; omega, h.out.same (Below.heap_alloc _ _ _ hG)⟩
  clear hs
  have I' : Hid _ := I
  clear I
  generalize L.length = len at I' ⊢
  go_enter Try.func59, Try.ntmps59
  go_wp2_with fail
  refine (I'.out _ H0.out.1 H0.out.2).mono ?_
  rintro e w1 ⟨rfl, b1⟩
  have B1 : Hid (Below w.heap.size w w1) := ((Below.refl _ w).alloc (Nat.le_refl _) _).trans (b1.mono (by simp))
  clear b1
  by_cases hk : N < len
  · rw [if_pos hk]
    have h0 : (0 : Int) ≤ (N : Int) := by omega
    go_wp2
    go_ret
    exact ⟨by simp [hk], B1.out⟩
  · rw [if_neg hk]
    go_wp2
    go_ret
    exact ⟨by simp [hk], B1.out⟩

set_option maxHeartbeats 1600000 in
theorem implGoneC (G : Nat) (L : List (Int × Int)) (hL : L.length = 3) (r : Rt) (B : Nat) (w : World) (hB : Hid (Boxed w B #[.slice (some ⟨G, 0, none⟩) 3 3] 70)) (hG : G < w.heap.size) (h : Hid (PlsAt w G L)) :
    Calls Try.prog 58 #[r.val, .pointer (some ⟨B, 0, none⟩)] w fun e w' => e = .returned (.bool (decide ((r.net, r.bits) ∈ L))) ∧ Below w.heap.size w w' := by
  have C := fun w => implPlace r w
  have D := fun w hG h => implHasP G 3 L r.net r.bits w (by omega) hG h
  rw [hL] at D
  generalize decide ((r.net, r.bits) ∈ L) = z at D ⊢
  obtain ⟨net, bits, hop⟩ := r
  unfold Rt.val
  unfold Rt.val pv at C
  unfold pv at D
  simp only [] at C D
  have X : Hid (Boxed (w.alloc (.cells #[.int .i64 net, .int .i64 bits, .int .i64 hop] 53)) w.heap.size #[.int .i64 net, .int .i64 bits, .int .i64 hop] 53 ∧ Below w.heap.size w (w.alloc (.cells #[.int .i64 net, .int .i64 bits, .int .i64 hop] 53)) ∧ Boxed (w.alloc (.cells #[.int .i64 net, .int .i64 bits, .int .i64 hop] 53)) B #[.slice (some ⟨G, 0, none⟩) 3 3] 70 ∧ PlsAt (w.alloc (.cells #[.int .i64 net, .int .i64 bits, .int .i64 hop] 53)) G L ∧ G < (w.alloc (.cells #[.int .i64 net, .int .i64 bits, .int .i64 hop] 53)).heap.size) :=
    ⟨Boxed.new _ _ _, (Below.refl _ _).alloc (Nat.le_refl _) _, hB.out.more _, h.out.same (Below.heap_alloc _ _ _ hG), by simp; omega⟩
  clear hL
  go_enter Try.func58, Try.ntmps58
  go_wp2_with fail
  obtain ⟨A, hA⟩ : ∃ A, A = w.heap.size := ⟨_, rfl⟩
  rw [← hA] at X ⊢
  have HA : Hid (A = w.heap.size) := hA
  clear hA
  generalize w.alloc (.cells #[.int .i64 net, .int .i64 bits, .int .i64 hop] 53) = w1 at X ⊢
  have f0 : ∀ p : BelW w1.heap.size w1, p.w'.cell? ⟨A, 0, none⟩ = some (.int .i64 net) := fun p => (X.out.1.below X.out.1.under p.h).cell 0 rfl
  have f1 : ∀ p : BelW w1.heap.size w1, p.w'.cell? ⟨A, 1, none⟩ = some (.int .i64 bits) := fun p => (X.out.1.below X.out.1.under p.h).cell 1 rfl
  have f2 : ∀ p : BelW w1.heap.size w1, p.w'.cell? ⟨A, 2, none⟩ = some (.int .i64 hop) := fun p => (X.out.1.below X.out.1.under p.h).cell 2 rfl
  have f3 : ∀ p : BelW w1.heap.size w1, p.w'.cell? ⟨B, 0, none⟩ = some (.slice (some ⟨G, 0, none⟩) 3 3) := fun p => (X.out.2.2.1.below X.out.2.2.1.under p.h).cell 0 rfl
  have Hm : Hid (∀ p : BelW w1.heap.size w1, G < p.w'.heap.size ∧ PlsAt p.w' G L) := fun p => ⟨Nat.lt_of_lt_of_le X.out.2.2.2.2 p.h.size, X.out.2.2.2.1.same (p.h.block _ X.out.2.2.2.2)⟩
  haveI : Nonempty (BelW w1.heap.size w1) := ⟨⟨w1, Below.refl _ _⟩⟩
  refine region_below w1.heap.size (by kernel_rfl) (by kernel_rfl) ?_
  repeat (go_big_quiet_step ((first | (go_at_call 55; refine quiet_below (Nat.le_refl _) (C _)) | (go_at_call 59; refine quiet_below (Nat.le_refl _) (D _ (Hm.out _).1 (Hm.out _).2)))))
  refine wpQuiet_nil ?_
  intro wq hx
  have hq := BelW.out hx
  have HQ : Hid (Below A w wq) := by
    have := X.out.2.1
    exact this.trans (hq.mono (by rw [HA.out]; exact this.size))
  clear hx hq f0 f1 f2 f3 Hm
  go_wp2
  go_ret
  exact ⟨rfl, HA.out ▸ HQ.out⟩

theorem goneTells (G : Nat) (L : List (Int × Int)) (hL : L.length = 3) (B : Nat) (w : World) (hB : Boxed w B #[.slice (some ⟨G, 0, none⟩) 3 3] 70) (hG : G < w.heap.size) (h : PlsAt w G L) :
    Tells w (fun k => k = B ∨ k = G) 58 #[] #[.pointer (some ⟨B, 0, none⟩)] (fun _ => True) (fun r => decide ((r.net, r.bits) ∈ L)) := by
  refine ⟨enters_of Try.func58 (by kernel_rfl) rfl, fun k hk => ?_, fun W r hr hW => ?_⟩
  · rcases hk with rfl | rfl
    · exact hB.under
    · exact hG
  · have e1 := hW B (.inl rfl)
    have e2 := hW G (.inr rfl)
    have hB' : Boxed W B #[.slice (some ⟨G, 0, none⟩) 3 3] 70 := e1.trans hB
    have hG' : G < W.heap.size := by
      apply Classical.byContradiction
      intro hn
      have h0 := (h 0 (by omega)).1
      rw [Array.getElem?_eq_none (by omega)] at e2
      unfold World.cell? at h0
      simp [← e2] at h0
    exact implGoneC G L hL r B W hB' hG' (h.same e2)
end Go.Proofs.Ytilnjmpnhadidaa

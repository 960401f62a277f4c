/-
  The model's drawing of the arguments of Put and of Take. By the verifier.
-/
import Derived.Test.YtbokeaaicbffdaaRtDrawL
import Derived.Test.YtbokeaaicbffdaaQuiet
import Derived.BigQuiet
namespace Go.Proofs.Ytbokeaaicbffdaa
open Go.RowKit

theorem bel_both {B n : Nat} {W w w' : World} (b : Below B W w) (b' : Below B W w') (hs : w.heap.size ≤ w'.heap.size) (hk : ∀ k, k < n → w'.heap[k]? = w.heap[k]?) : Below n w w' :=
  ⟨b'.os.trans b.os.symm, b'.tape.trans b.tape.symm, b'.output.trans b.output.symm, hs, hk⟩

set_option maxHeartbeats 3200000 in
theorem drawPut {W : World} {a : Option Addr} {len cap : Nat} (hc : Hid (Code W a len)) (w : World) (bel : Hid (Below W.heap.size W w)) :
    Calls Try.prog 5 #[.slice a len cap] w fun e w' => (∃ (g c : Nat) (L : List Rt) (r : Rt), e = .returned (.tuple #[.slice (some ⟨g, 0, none⟩) L.length c, r.val]) ∧ L.length ≤ 64 ∧ L.length ≤ c ∧ RtsAt w' (some ⟨g, 0, none⟩) L) ∧ Below w.heap.size w w' := by
  have hle := bel.out.size
  go_enter Try.func5, Try.ntmps5
  go_wp2_with fail
  have bel' : Hid (Below W.heap.size W (w.alloc (.cells zeroRt 26))) := bel.out.alloc hle _
  refine (drawNew hc _ bel').mono ?_
  rintro e w1 ⟨rfl, c1, b1⟩
  have hs : (w.alloc (.cells zeroRt 26)).heap.size = w.heap.size + 1 := by simp
  rw [hs] at c1 b1 ⊢
  have H1 : Hid (Cur W (w.heap.size + 1) a len cap w1 ∧ Below w.heap.size w w1 ∧ Boxed w1 w.heap.size zeroRt 26) := ⟨c1, ((Below.refl _ w).alloc (Nat.le_refl _) _).trans (b1.mono (by omega)), (Boxed.new w _ _).below (by omega) b1⟩
  clear c1 b1 bel' hs
  go_wp2_with fail
  refine (drawLists hc _ H1.out.1).mono ?_
  rintro e w2 ⟨g, c, L, rfl, hL, d2⟩
  have H2 : Hid (DrL W (w.heap.size + 1) a len cap w1 (.slice (some ⟨g, 0, none⟩) L.length c) L w2 ∧ Boxed w2 w.heap.size zeroRt 26) := ⟨d2, H1.out.2.2.keep (by omega) d2.kp⟩
  clear d2
  go_wp2_with fail
  refine (drawRoute hc _ H2.out.1.cur).mono ?_
  rintro e w3 ⟨⟨⟨net, bits, hop⟩, rfl⟩, c3, k3⟩
  have H3 : Hid (DrL W (w.heap.size + 1) a len cap w1 (.slice (some ⟨g, 0, none⟩) L.length c) L w3 ∧ Boxed w3 w.heap.size zeroRt 26) := ⟨H2.out.1.draw c3 k3, H2.out.2.keep (by omega) k3⟩
  clear c3 k3 H2
  simp only [Rt.val]
  have hb3 := H3.out.2
  have B3 : Below w.heap.size w w3 := by
    have q1 := H1.out.2.1
    have q2 := H3.out.1.kp
    have q3 := q1.size
    have q4 := q2.size
    exact bel_both bel.out H3.out.1.cur.bel (by omega) fun k hk => (q2.block k (by omega) (by omega)).trans (q1.block k hk)
  have d0 : w3.cell? ⟨w.heap.size, 0, none⟩ = some (.int .i64 0) := hb3.cell 0 rfl
  have d1 : w3.cell? ⟨w.heap.size, 1, none⟩ = some (.int .i64 0) := hb3.cell 1 rfl
  have d2 : w3.cell? ⟨w.heap.size, 2, none⟩ = some (.int .i64 0) := hb3.cell 2 rfl
  have i0 := hb3.ice 0
  have i1 := hb3.ice 1
  have i2 := hb3.ice 2
  have hb5 := ((hb3.put 0 (.int .i64 net)).put 1 (.int .i64 bits)).put 2 (.int .i64 hop)
  have hg : w.heap.size < g := by
    have := (H3.out.1.row.lt g rfl).1
    have := H1.out.1.lt
    omega
  have F5 : RtsAt (((w3.setCell ⟨w.heap.size, 0, none⟩ (.int .i64 net)).setCell ⟨w.heap.size, 1, none⟩ (.int .i64 bits)).setCell ⟨w.heap.size, 2, none⟩ (.int .i64 hop)) (some ⟨g, 0, none⟩) L := by
    refine RRow.at (H3.out.1.row.carry fun k hk _ => ?_)
    have e1 : g = k := by simpa [Value.ownBlock] using hk
    rw [Below.heap_setCell _ _ _ _ (show k ≠ w.heap.size by omega), Below.heap_setCell _ _ _ _ (show k ≠ w.heap.size by omega), Below.heap_setCell _ _ _ _ (show k ≠ w.heap.size by omega)]
  have B5 : Below w.heap.size w (((w3.setCell ⟨w.heap.size, 0, none⟩ (.int .i64 net)).setCell ⟨w.heap.size, 1, none⟩ (.int .i64 bits)).setCell ⟨w.heap.size, 2, none⟩ (.int .i64 hop)) := ((B3.setCell (p := ⟨w.heap.size, 0, none⟩) (Nat.le_refl _) _).setCell (p := ⟨w.heap.size, 1, none⟩) (Nat.le_refl _) _).setCell (p := ⟨w.heap.size, 2, none⟩) (Nat.le_refl _) _
  have H5 : Hid (RtsAt (((w3.setCell ⟨w.heap.size, 0, none⟩ (.int .i64 net)).setCell ⟨w.heap.size, 1, none⟩ (.int .i64 bits)).setCell ⟨w.heap.size, 2, none⟩ (.int .i64 hop)) (some ⟨g, 0, none⟩) L ∧ Below w.heap.size w (((w3.setCell ⟨w.heap.size, 0, none⟩ (.int .i64 net)).setCell ⟨w.heap.size, 1, none⟩ (.int .i64 bits)).setCell ⟨w.heap.size, 2, none⟩ (.int .i64 hop)) ∧ Boxed (((w3.setCell ⟨w.heap.size, 0, none⟩ (.int .i64 net)).setCell ⟨w.heap.size, 1, none⟩ (.int .i64 bits)).setCell ⟨w.heap.size, 2, none⟩ (.int .i64 hop)) w.heap.size #[.int .i64 net, .int .i64 bits, .int .i64 hop] 26 ∧ L.length ≤ c) := ⟨F5, B5, hb5, H3.out.1.row.cap⟩
  clear hb3 B3 hb5 F5 B5 H1 hg
  go_wp2
  clear d0 d1 d2 i0 i1 i2
  generalize ((w3.setCell ⟨w.heap.size, 0, none⟩ (.int .i64 net)).setCell ⟨w.heap.size, 1, none⟩ (.int .i64 bits)).setCell ⟨w.heap.size, 2, none⟩ (.int .i64 hop) = w5 at H5 ⊢
  have k0 : w5.cell? ⟨w.heap.size, 0, none⟩ = some (.int .i64 net) := H5.out.2.2.1.cell 0 rfl
  have k1 : w5.cell? ⟨w.heap.size, 1, none⟩ = some (.int .i64 bits) := H5.out.2.2.1.cell 1 rfl
  have k2 : w5.cell? ⟨w.heap.size, 2, none⟩ = some (.int .i64 hop) := H5.out.2.2.1.cell 2 rfl
  refine bodyPost_ret (v := .tuple #[.slice (some ⟨g, 0, none⟩) L.length c, .agg #[.int .i64 net, .int .i64 bits, .int .i64 hop]]) ?_ rfl ?_
  · simp [results, Try.results5, go_sem, k0, k1, k2]
  · exact ⟨⟨g, c, L, ⟨net, bits, hop⟩, rfl, hL, H5.out.2.2.2, H5.out.1⟩, H5.out.2.1⟩

set_option maxHeartbeats 3200000 in
theorem drawTake {W : World} {a : Option Addr} {len cap : Nat} (hc : Hid (Code W a len)) (w : World) (bel : Hid (Below W.heap.size W w)) :
    Calls Try.prog 7 #[.slice a len cap] w fun e w' => (∃ (g c : Nat) (L : List Rt) (net bits : Int), e = .returned (.tuple #[.slice (some ⟨g, 0, none⟩) L.length c, .int .i64 net, .int .i64 bits]) ∧ L.length ≤ 64 ∧ L.length ≤ c ∧ RtsAt w' (some ⟨g, 0, none⟩) L) ∧ Below w.heap.size w w' := by
  go_enter Try.func7, Try.ntmps7
  go_wp2_with fail
  refine (drawNew hc _ bel).mono ?_
  rintro e w1 ⟨rfl, c1, b1⟩
  obtain ⟨bc, hbc⟩ : ∃ bc, w.heap.size = bc := ⟨_, rfl⟩
  have H1 : Hid (Cur W bc a len cap w1 ∧ Below bc w w1) := by rw [← hbc]; exact ⟨c1, b1⟩
  have fin : ∀ w3 v L, DrL W bc a len cap w1 v L w3 → Below w.heap.size w w3 := fun w3 v L h => by
    have h1 := H1.out.2.size
    have h2 := h.kp.size
    exact bel_both bel.out h.cur.bel (by omega) fun k hk => (h.kp.block k (by omega) (by omega)).trans (H1.out.2.block k (by omega))
  have Fin : Hid _ := fin
  rw [hbc]
  clear c1 b1 hbc fin
  go_wp2_with fail
  refine (drawLists hc _ H1.out.1).mono ?_
  rintro e w2 ⟨g, c, L, rfl, hL, d2⟩
  have H2 : Hid (DrL W bc a len cap w1 (.slice (some ⟨g, 0, none⟩) L.length c) L w2) := d2
  have hLc := d2.row.cap
  clear d2
  have At : Hid (∀ (w3 : World) (k : Nat), k < L.length → DrL W bc a len cap w1 (.slice (some ⟨g, 0, none⟩) L.length c) L w3 → _) := fun w3 k hk h => cells_at (RRow.at h.row) (k := k) hk
  have Rt' : Hid (∀ w3, DrL W bc a len cap w1 (.slice (some ⟨g, 0, none⟩) L.length c) L w3 → RtsAt w3 (some ⟨g, 0, none⟩) L) := fun w3 h => RRow.at h.row
  obtain ⟨n, hn⟩ : ∃ n, L.length = n := ⟨_, rfl⟩
  have Hn : Hid (L.length = n) := hn
  simp only [hn] at H2 hL hLc At Rt' ⊢
  clear hn
  have tl : Hid (∀ w3, DrL W bc a len cap w1 (.slice (some ⟨g, 0, none⟩) n c) L w3 → ∀ net bits : Int, (∃ (g' c' : Nat) (L' : List Rt) (net' bits' : Int), Ending.returned (.tuple #[.slice (some ⟨g, 0, none⟩) n c, .int .i64 net, .int .i64 bits]) = .returned (.tuple #[.slice (some ⟨g', 0, none⟩) L'.length c', .int .i64 net', .int .i64 bits']) ∧ L'.length ≤ 64 ∧ L'.length ≤ c' ∧ RtsAt w3 (some ⟨g', 0, none⟩) L') ∧ Below w.heap.size w w3) := fun w3 h net bits => ⟨⟨g, c, L, net, bits, by rw [Hn.out], by rw [Hn.out]; exact hL, by rw [Hn.out]; exact hLc, Rt'.out w3 h⟩, Fin.out _ _ _ h⟩
  by_cases h0 : n = 0
  · have h0' : ¬ (0 : Int) < (n : Int) := by omega
    clear h0
    go_wp2_with fail
    refine (drawRoute hc _ H2.out.cur).mono ?_
    rintro e w4 ⟨⟨⟨net, bits, hop⟩, rfl⟩, c4, k4⟩
    have H4 : Hid (DrL W bc a len cap w1 (.slice (some ⟨g, 0, none⟩) n c) L (w4.alloc (.cells #[.int .i64 net, .int .i64 bits, .int .i64 hop] 26))) := (H2.out.draw c4 k4).more _
    clear c4 k4 H2
    simp only [Rt.val]
    go_wp2_with fail
    obtain ⟨W5, hW5⟩ : ∃ W5, W5 = w4.alloc (.cells #[.int .i64 net, .int .i64 bits, .int .i64 hop] 26) := ⟨_, rfl⟩
    have X5 : Boxed W5 w4.heap.size #[.int .i64 net, .int .i64 bits, .int .i64 hop] 26 := by rw [hW5]; exact Boxed.new _ _ _
    rw [← hW5] at H4 ⊢
    clear hW5
    generalize w4.heap.size = B at X5 ⊢
    have f0 := fun p : BelW W5.heap.size W5 => (X5.below X5.under p.h).cell 0 rfl
    have f1 := fun p : BelW W5.heap.size W5 => (X5.below X5.under p.h).cell 1 rfl
    haveI : Nonempty (BelW W5.heap.size W5) := ⟨⟨W5, Below.refl _ _⟩⟩
    refine region_below W5.heap.size (by kernel_rfl) (by kernel_rfl) ?_
    repeat (go_big_quiet_step (fail))
    refine wpQuiet_nil ?_
    intro wq hx
    have hq := BelW.out hx
    have H6 : Hid (DrL W bc a len cap w1 (.slice (some ⟨g, 0, none⟩) n c) L wq) := H4.out.draw (H4.out.cur.below H4.out.cur.lt hq) ⟨hq.size, fun k _ hk => hq.block k hk⟩
    clear hx hq f0 f1 X5 H4
    go_wp2
    refine bodyPost_ret (v := .tuple #[.slice (some ⟨g, 0, none⟩) n c, .int .i64 net, .int .i64 bits]) (by simp [results, Try.results7, go_sem]) rfl ?_
    exact tl.out _ H6.out net bits
  have h1 : (0 : Int) < (n : Int) := by omega
  go_wp2_with fail
  refine (drawOnce hc 4 (by omega) _ H2.out.cur).mono ?_
  rintro e w3 ⟨⟨bo, rfl⟩, c3, k3⟩
  have H3 : Hid (DrL W bc a len cap w1 (.slice (some ⟨g, 0, none⟩) n c) L w3) := H2.out.draw c3 k3
  clear c3 k3 H2
  cases bo
  · go_wp2_with fail
    refine (drawBelow hc n h1 _ H3.out.cur).mono ?_
    rintro e w4 ⟨⟨y, rfl, y0, y1⟩, c4, k4⟩
    obtain ⟨k, rfl⟩ := Int.eq_ofNat_of_zero_le y0
    have H4' : Hid (DrL W bc a len cap w1 (.slice (some ⟨g, 0, none⟩) n c) L w4) := H3.out.draw c4 k4
    clear c4 k4 H3
    obtain ⟨q0, q1, q2⟩ := At.out w4 k (by omega) H4'.out
    generalize rtAt L k = r at q0 q1 q2
    obtain ⟨net, bits, hop⟩ := r
    simp only [Nat.zero_add] at q0 q1 q2
    have H4 : Hid (DrL W bc a len cap w1 (.slice (some ⟨g, 0, none⟩) n c) L (w4.alloc (.cells #[.int .i64 net, .int .i64 bits, .int .i64 hop] 26))) := H4'.out.more _
    clear H4'
    go_wp2_with fail
    clear q0 q1 q2
    obtain ⟨W5, hW5⟩ : ∃ W5, W5 = w4.alloc (.cells #[.int .i64 net, .int .i64 bits, .int .i64 hop] 26) := ⟨_, rfl⟩
    have X5 : Boxed W5 w4.heap.size #[.int .i64 net, .int .i64 bits, .int .i64 hop] 26 := by rw [hW5]; exact Boxed.new _ _ _
    rw [← hW5] at H4 ⊢
    clear hW5
    generalize w4.heap.size = B at X5 ⊢
    have f0 := fun p : BelW W5.heap.size W5 => (X5.below X5.under p.h).cell 0 rfl
    have f1 := fun p : BelW W5.heap.size W5 => (X5.below X5.under p.h).cell 1 rfl
    haveI : Nonempty (BelW W5.heap.size W5) := ⟨⟨W5, Below.refl _ _⟩⟩
    refine region_below W5.heap.size (by kernel_rfl) (by kernel_rfl) ?_
    repeat (go_big_quiet_step (fail))
    refine wpQuiet_nil ?_
    intro wq hx
    have hq := BelW.out hx
    have H6 : Hid (DrL W bc a len cap w1 (.slice (some ⟨g, 0, none⟩) n c) L wq) := H4.out.draw (H4.out.cur.below H4.out.cur.lt hq) ⟨hq.size, fun k _ hk => hq.block k hk⟩
    clear hx hq f0 f1 X5 H4
    go_wp2
    refine bodyPost_ret (v := .tuple #[.slice (some ⟨g, 0, none⟩) n c, .int .i64 net, .int .i64 bits]) (by simp [results, Try.results7, go_sem]) rfl ?_
    exact tl.out _ H6.out net bits
  · skip
    go_wp2_with fail
    refine (drawRoute hc _ H3.out.cur).mono ?_
    rintro e w4 ⟨⟨⟨net, bits, hop⟩, rfl⟩, c4, k4⟩
    have H4 : Hid (DrL W bc a len cap w1 (.slice (some ⟨g, 0, none⟩) n c) L (w4.alloc (.cells #[.int .i64 net, .int .i64 bits, .int .i64 hop] 26))) := (H3.out.draw c4 k4).more _
    clear c4 k4 H3
    simp only [Rt.val]
    go_wp2_with fail
    obtain ⟨W5, hW5⟩ : ∃ W5, W5 = w4.alloc (.cells #[.int .i64 net, .int .i64 bits, .int .i64 hop] 26) := ⟨_, rfl⟩
    have X5 : Boxed W5 w4.heap.size #[.int .i64 net, .int .i64 bits, .int .i64 hop] 26 := by rw [hW5]; exact Boxed.new _ _ _
    rw [← hW5] at H4 ⊢
    clear hW5
    generalize w4.heap.size = B at X5 ⊢
    have f0 := fun p : BelW W5.heap.size W5 => (X5.below X5.under p.h).cell 0 rfl
    have f1 := fun p : BelW W5.heap.size W5 => (X5.below X5.under p.h).cell 1 rfl
    haveI : Nonempty (BelW W5.heap.size W5) := ⟨⟨W5, Below.refl _ _⟩⟩
    refine region_below W5.heap.size (by kernel_rfl) (by kernel_rfl) ?_
    repeat (go_big_quiet_step (fail))
    refine wpQuiet_nil ?_
    intro wq hx
    have hq := BelW.out hx
    have H6 : Hid (DrL W bc a len cap w1 (.slice (some ⟨g, 0, none⟩) n c) L wq) := H4.out.draw (H4.out.cur.below H4.out.cur.lt hq) ⟨hq.size, fun k _ hk => hq.block k hk⟩
    clear hx hq f0 f1 X5 H4
    go_wp2
    refine bodyPost_ret (v := .tuple #[.slice (some ⟨g, 0, none⟩) n c, .int .i64 net, .int .i64 bits]) (by simp [results, Try.results7, go_sem]) rfl ?_
    exact tl.out _ H6.out net bits
end Go.Proofs.Ytbokeaaicbffdaa

/-
  The model's drawing of the arguments of HopOf and of Fits. By the verifier.
-/
import Derived.Test.YthkeabnfhgnpjaaRtDrawL
namespace Go.Proofs.Ythkeabnfhgnpjaa
open Go.RowKit

theorem below_both {B n : Nat} {W w w' : World} (b : Below B W w) (b' : Below B W w') (hs : w.heap.size ≤ w'.heap.size) (hk : ∀ k, k < n → w'.heap[k]? = w.heap[k]?) : Below n w w' :=
  ⟨b'.os.trans b.os.symm, b'.tape.trans b.tape.symm, b'.output.trans b.output.symm, hs, hk⟩
set_option maxHeartbeats 1600000 in
theorem drawHop {W : World} {a : Option Addr} {len cap : Nat} (hc : Hid (Code W a len)) (w : World) (bel : Hid (Below W.heap.size W w)) :
    Calls Try.prog 10 #[.slice a len cap] w fun e w' => (∃ (g c : Nat) (L : List Rt) (x : Int), e = .returned (.tuple #[.slice (some ⟨g, 0, none⟩) L.length c, .int .i64 x]) ∧ L.length ≤ 64 ∧ L.length ≤ c ∧ RtsAt w' (some ⟨g, 0, none⟩) L) ∧ Below w.heap.size w w' := by
  go_enter Try.func10, Try.ntmps10
  go_wp2_with fail
  refine (drawNew hc _ bel).mono ?_
  rintro e w1 ⟨rfl, c1, b1⟩
  obtain ⟨bc, hbc⟩ : ∃ bc, w.heap.size = bc := ⟨_, rfl⟩
  have H1 : Hid (Cur W bc a len cap w1 ∧ Below bc w w1) := by rw [← hbc]; exact ⟨c1, b1⟩
  rw [hbc]
  have Hbc : Hid (w.heap.size = bc) := hbc
  clear c1 b1 hbc
  go_wp2_with fail
  refine (drawLists hc _ H1.out.1).mono ?_
  rintro e w2 ⟨g, c, L, rfl, hL, d2⟩
  have H2 : Hid (DrL W bc a len cap w1 (.slice (some ⟨g, 0, none⟩) L.length c) L w2) := d2
  clear d2
  go_wp2_with fail
  refine (drawAddr hc _ H2.out.cur).mono ?_
  rintro e w3 ⟨⟨x, rfl⟩, c3, k3⟩
  have H3 : Hid (DrL W bc a len cap w1 (.slice (some ⟨g, 0, none⟩) L.length c) L w3) := H2.out.draw c3 k3
  clear c3 k3 H2
  go_wp2
  refine bodyPost_ret (v := .tuple #[.slice (some ⟨g, 0, none⟩) L.length c, .int .i64 x]) (by simp [results, Try.results10, go_sem]) rfl ?_
  refine ⟨⟨g, c, L, x, rfl, hL, H3.out.row.cap, H3.out.row.at⟩, ?_⟩
  have h0 := Hbc.out
  have h1 := H1.out.2.size
  have h2 := H3.out.kp.size
  exact below_both bel.out H3.out.cur.bel (by omega) fun k hk => (H3.out.kp.block k (by omega) (by omega)).trans (H1.out.2.block k (by omega))

set_option maxHeartbeats 3200000 in
theorem drawFit {W : World} {a : Option Addr} {len cap : Nat} (hc : Hid (Code W a len)) (w : World) (bel : Hid (Below W.heap.size W w)) :
    Calls Try.prog 12 #[.slice a len cap] w fun e w' => (∃ (r : Rt) (x : Int), e = .returned (.tuple #[r.val, .int .i64 x])) ∧ Below w.heap.size w w' := by
  have hle := bel.out.size
  go_enter Try.func12, Try.ntmps12
  go_wp2_with fail
  have bel' : Hid (Below W.heap.size W (w.alloc (.cells zeroRt 29))) := bel.out.alloc hle _
  refine (drawNew hc _ bel').mono ?_
  rintro e w1 ⟨rfl, c1, b1⟩
  have hs : (w.alloc (.cells zeroRt 29)).heap.size = w.heap.size + 1 := by simp
  rw [hs] at c1 b1 ⊢
  have H1 : Hid (Cur W (w.heap.size + 1) a len cap w1 ∧ Below (w.heap.size + 1) (w.alloc (.cells zeroRt 29)) w1) := ⟨c1, b1⟩
  clear c1 b1 bel' hs
  go_wp2_with fail
  refine (drawRoute hc _ H1.out.1).mono ?_
  rintro e w2 ⟨⟨⟨net, bits, hop⟩, rfl⟩, c2, k2⟩
  have hb2 : Boxed w2 w.heap.size zeroRt 29 := by
    have hb1 : Boxed w1 w.heap.size zeroRt 29 := (Boxed.new w _ _).below (by omega) H1.out.2
    exact hb1.keep (by omega) k2
  have s2 : w.heap.size + 1 < w2.heap.size := c2.lt
  have H2 : Hid (Cur W (w.heap.size + 1) a len cap (w2.alloc (.cells #[.int .i64 net, .int .i64 bits, .int .i64 hop] 29)) ∧ Below w.heap.size w (w2.alloc (.cells #[.int .i64 net, .int .i64 bits, .int .i64 hop] 29)) ∧ Boxed (w2.alloc (.cells #[.int .i64 net, .int .i64 bits, .int .i64 hop] 29)) w.heap.size zeroRt 29 ∧ Boxed (w2.alloc (.cells #[.int .i64 net, .int .i64 bits, .int .i64 hop] 29)) w2.heap.size #[.int .i64 net, .int .i64 bits, .int .i64 hop] 29 ∧ w.heap.size + 1 < w2.heap.size) := by
    refine ⟨c2.alloc _, ?_, hb2.more _, Boxed.new _ _ _, s2⟩
    have q : Below w.heap.size w w2 := below_both bel.out c2.bel (by omega) fun k hk => ((k2.block k (by omega) (by have := H1.out.2.size; simp at this; omega)).trans (H1.out.2.block k (by omega))).trans (Below.heap_alloc _ _ _ hk)
    exact q.alloc (by omega) _
  clear c2 k2 hb2 H1 s2
  simp only [Rt.val]
  go_wp2_with fail
  generalize w2.alloc (.cells #[.int .i64 net, .int .i64 bits, .int .i64 hop] 29) = w3 at H2 ⊢
  generalize w2.heap.size = B at H2 ⊢
  have c0 : w3.cell? ⟨B, 0, none⟩ = some (.int .i64 net) := H2.out.2.2.2.1.cell 0 rfl
  have c1 : w3.cell? ⟨B, 1, none⟩ = some (.int .i64 bits) := H2.out.2.2.2.1.cell 1 rfl
  have c2 : w3.cell? ⟨B, 2, none⟩ = some (.int .i64 hop) := H2.out.2.2.2.1.cell 2 rfl
  go_region_law (refine call_step rfl 30 rfl #[.pointer (some ⟨w.heap.size + 1, 0, none⟩)] (by kernel_rfl) (drawAddr hc _ H2.out.1.drew) ?_; rintro e w4 ⟨⟨x, rfl⟩, c4, k4⟩; refine ⟨_, rfl, ?_⟩; have H4 : Hid (Boxed w4 w.heap.size zeroRt 29 ∧ Below w.heap.size w w4) := ⟨H2.out.2.2.1.keep (by omega) ((Keep.refl _ w3).drew.trans k4), by have q := H2.out.2.1; have k5 := (Keep.refl _ w3).drew.trans k4; have q1 := q.size; have q2 := k5.size; exact below_both bel.out c4.bel (by omega) fun k hk => (k5.block k (by omega) (by omega)).trans (q.block k hk)⟩; have d0 : w4.cell? ⟨w.heap.size, 0, none⟩ = some (.int .i64 0) := H4.out.1.cell 0 rfl; have d1 : w4.cell? ⟨w.heap.size, 1, none⟩ = some (.int .i64 0) := H4.out.1.cell 1 rfl; have d2 : w4.cell? ⟨w.heap.size, 2, none⟩ = some (.int .i64 0) := H4.out.1.cell 2 rfl; have i0 := H4.out.1.ice 0; have i1 := H4.out.1.ice 1; have i2 := H4.out.1.ice 2; have e0 : w4.cell? ⟨B, 0, none⟩ = some (.int .i64 net) := (H2.out.2.2.2.1.keep (by have := H2.out.2.2.2.2; omega) ((Keep.refl _ w3).drew.trans k4)).cell 0 rfl; have e1 : w4.cell? ⟨B, 1, none⟩ = some (.int .i64 bits) := (H2.out.2.2.2.1.keep (by have := H2.out.2.2.2.2; omega) ((Keep.refl _ w3).drew.trans k4)).cell 1 rfl; have e2 : w4.cell? ⟨B, 2, none⟩ = some (.int .i64 hop) := (H2.out.2.2.2.1.keep (by have := H2.out.2.2.2.2; omega) ((Keep.refl _ w3).drew.trans k4)).cell 2 rfl; clear c4 k4)
  all_goals
    go_wp2
    have hb5 := ((H4.out.1.put 0 (.int .i64 net)).put 1 (.int .i64 bits)).put 2 (.int .i64 hop)
    have B5 : Below w.heap.size w (((w4.setCell ⟨w.heap.size, 0, none⟩ (.int .i64 net)).setCell ⟨w.heap.size, 1, none⟩ (.int .i64 bits)).setCell ⟨w.heap.size, 2, none⟩ (.int .i64 hop)) := ((H4.out.2.setCell (p := ⟨w.heap.size, 0, none⟩) (Nat.le_refl _) _).setCell (p := ⟨w.heap.size, 1, none⟩) (Nat.le_refl _) _).setCell (p := ⟨w.heap.size, 2, none⟩) (Nat.le_refl _) _
    clear d0 d1 d2 i0 i1 i2 e0 e1 e2
    generalize ((w4.setCell ⟨w.heap.size, 0, none⟩ (.int .i64 net)).setCell ⟨w.heap.size, 1, none⟩ (.int .i64 bits)).setCell ⟨w.heap.size, 2, none⟩ (.int .i64 hop) = w5 at hb5 B5 ⊢
    have k0 : w5.cell? ⟨w.heap.size, 0, none⟩ = some (.int .i64 net) := hb5.cell 0 rfl
    have k1 : w5.cell? ⟨w.heap.size, 1, none⟩ = some (.int .i64 bits) := hb5.cell 1 rfl
    have k2 : w5.cell? ⟨w.heap.size, 2, none⟩ = some (.int .i64 hop) := hb5.cell 2 rfl
    refine bodyPost_ret (v := .tuple #[.agg #[.int .i64 net, .int .i64 bits, .int .i64 hop], .int .i64 x]) ?_ rfl ?_
    · simp [results, Try.results12, go_sem, k0, k1, k2, Act.put]
    · exact ⟨⟨⟨net, bits, hop⟩, x, rfl⟩, B5⟩
end Go.Proofs.Ythkeabnfhgnpjaa

import Derived.Test.YtllmkolchgmjoaaFsDraw
import Derived.Test.YtllmkolchgmjoaaM7DrawO
/-
  The model's drawing of flows (FairOk). By the verifier, by program.
-/
namespace Go.Proofs.Ytllmkolchgmjoaa
open Go.RowKit

set_option maxHeartbeats 6400000 in
set_option maxRecDepth 100000 in
theorem dDrawFairOk {W : World} {ac : Option Addr} {len cap : Nat} (hc : Hid (Code W ac len)) (w : World) (bel : Hid (Below W.heap.size W w)) :
    Calls Try.prog 30 #[.slice ac len cap] w fun e w' => (∃ v r, e = .returned v ∧ FsIn w.heap.size w'.heap.size w' v r ∧ r.big ≤ 200) ∧ Below w.heap.size w w' := by
  have hle := bel.out.size
  obtain ⟨w0, hw0⟩ : ∃ w0, w0 = w.alloc (.cells #[.int .i64 0, .slice none 0 0] 26) := ⟨_, rfl⟩
  have hs0 : w0.heap.size = w.heap.size + 1 := by rw [hw0]; simp
  have H0 : Hid (Below W.heap.size W w0 ∧ Below w.heap.size w w0 ∧ Boxed w0 w.heap.size #[.int .i64 0, .slice none 0 0] 26) := by
    rw [hw0]
    exact ⟨bel.out.alloc hle _, (Below.refl _ _).alloc (Nat.le_refl _) _, Boxed.new _ _ _⟩
  have HW0 : Hid (w0 = _) := hw0
  have HS0 : Hid (w0.heap.size = _) := hs0
  clear hw0 hs0
  go_enter Try.func30, Try.ntmps30
  go_wp2_with fail
  rw [← HW0.out]
  refine (drawNew hc _ H0.out.1).mono ?_
  rintro e w1 ⟨rfl, c1, b1⟩
  rw [HS0.out] at c1 b1 ⊢
  have H1 : Hid (Cur W (w.heap.size + 1) ac len cap w1 ∧ Below w.heap.size w w1 ∧ Boxed w1 w.heap.size #[.int .i64 0, .slice none 0 0] 26 ∧ w.heap.size + 1 < w1.heap.size) := ⟨c1, H0.out.2.1.trans (b1.mono (by omega)), H0.out.2.2.below (by omega) b1, c1.lt⟩
  clear c1 b1 H0 HW0 HS0
  go_wp2_with fail
  refine (drawFair hc _ H1.out.1).mono ?_
  rintro e w2 ⟨⟨v, r, rfl, i2, hbig⟩, c2, k2⟩
  obtain ⟨p, q, ev⟩ : ∃ p q, v = .agg #[.int .i64 r.now, .slice p r.flows.length q] := by
    obtain ⟨p, q, e, _⟩ := i2
    exact ⟨p, q, e⟩
  subst ev
  have Hbig : Hid (r.big ≤ 200) := hbig
  have X2 : Hid (Boxed w2 w.heap.size #[.int .i64 0, .slice none 0 0] 26 ∧ Below w.heap.size w w2 ∧ FsIn w1.heap.size w2.heap.size w2 (.agg #[.int .i64 r.now, .slice p r.flows.length q]) r ∧ w.heap.size + 1 < w1.heap.size) := by
    have q1 := H1.out.2.1.size
    have q2 := k2.size
    exact ⟨boxKeep H1.out.2.2.1 (by omega) k2, bel_two bel.out c2.bel (by omega) fun k hk => (k2.block k (by omega) (by omega)).trans (H1.out.2.1.block k hk), i2, H1.out.2.2.2⟩
  clear c2 k2 i2 hbig H1
  have Fi : Hid (FsIn w.heap.size (w2.setRow w.heap.size #[.int .i64 r.now, .slice p r.flows.length q]).heap.size (w2.setRow w.heap.size #[.int .i64 r.now, .slice p r.flows.length q]) (.agg #[.int .i64 r.now, .slice p r.flows.length q]) r) := by
    have sz : (w2.setRow w.heap.size #[.int .i64 r.now, .slice p r.flows.length q]).heap.size = w2.heap.size := by simp [World.setRow]
    have h4 := X2.out.2.2.2
    exact (X2.out.2.2.1.keep (by rw [sz]; exact Nat.le_refl _) fun k k1 k2 => setRow_other _ _ _ _ (by omega)).wide (by omega) (by rw [sz]; exact Nat.le_refl _) (Nat.le_refl _)
  go_wp2_with (refine wpList_store_row rfl 26 (.tmp 2) (.tmp 7) rfl w.heap.size _ rfl rfl _ _ X2.out.1 (by kernel_rfl) rfl (by simp [Value.oneCell']) ?_)
  exact bodyPost_ret (results_cell_row Try.results30 _ _ w.heap.size _ _ _ _ rfl (setRow_heap _ w.heap.size _ _ _ _ X2.out.1) Try.underlying26 rfl (by kernel_rfl)) rfl ⟨⟨_, _, rfl, Fi.out, Hbig.out⟩, below_setRow X2.out.2.1 (Nat.le_refl _) _⟩

end Go.Proofs.Ytllmkolchgmjoaa

/-
  The model's drawing of flows (Served). By the verifier, by program.
-/
namespace Go.Proofs.Ytllmkolchgmjoaa
open Go.RowKit

set_option maxHeartbeats 6400000 in
set_option maxRecDepth 100000 in
theorem dDrawServed {W : World} {ac : Option Addr} {len cap : Nat} (hc : Hid (Code W ac len)) (w : World) (bel : Hid (Below W.heap.size W w)) :
    Calls Try.prog 8 #[.slice ac len cap] w fun e w' => (∃ v r, e = .returned v ∧ FsIn w.heap.size w'.heap.size w' v r ∧ r.big ≤ 200) ∧ Below w.heap.size w w' := by
  have hle := bel.out.size
  obtain ⟨w0, hw0⟩ : ∃ w0, w0 = w.alloc (.cells #[.int .i64 0, .slice none 0 0] 26) := ⟨_, rfl⟩
  have hs0 : w0.heap.size = w.heap.size + 1 := by rw [hw0]; simp
  have H0 : Hid (Below W.heap.size W w0 ∧ Below w.heap.size w w0 ∧ Boxed w0 w.heap.size #[.int .i64 0, .slice none 0 0] 26) := by
    rw [hw0]
    exact ⟨bel.out.alloc hle _, (Below.refl _ _).alloc (Nat.le_refl _) _, Boxed.new _ _ _⟩
  have HW0 : Hid (w0 = _) := hw0
  have HS0 : Hid (w0.heap.size = _) := hs0
  clear hw0 hs0
  go_enter Try.func8, Try.ntmps8
  go_wp2_with fail
  rw [← HW0.out]
  refine (dDrawFairOk hc _ H0.out.1).mono ?_
  rintro e w2 ⟨⟨v, r, rfl, i2, hbig⟩, b2⟩
  obtain ⟨p, q, ev⟩ : ∃ p q, v = .agg #[.int .i64 r.now, .slice p r.flows.length q] := by
    obtain ⟨p, q, e, _⟩ := i2
    exact ⟨p, q, e⟩
  subst ev
  have Hbig : Hid (r.big ≤ 200) := hbig
  have X2 : Hid (Boxed w2 w.heap.size #[.int .i64 0, .slice none 0 0] 26 ∧ Below w.heap.size w w2 ∧ FsIn (w.heap.size + 1) w2.heap.size w2 (.agg #[.int .i64 r.now, .slice p r.flows.length q]) r) := by
    rw [HS0.out] at i2 b2
    exact ⟨H0.out.2.2.below (by omega) b2, H0.out.2.1.trans (b2.mono (by omega)), i2⟩
  clear b2 i2 hbig H0 HS0 HW0
  have Fi : Hid (FsIn w.heap.size (w2.setRow w.heap.size #[.int .i64 r.now, .slice p r.flows.length q]).heap.size (w2.setRow w.heap.size #[.int .i64 r.now, .slice p r.flows.length q]) (.agg #[.int .i64 r.now, .slice p r.flows.length q]) r) := by
    have sz : (w2.setRow w.heap.size #[.int .i64 r.now, .slice p r.flows.length q]).heap.size = w2.heap.size := by simp [World.setRow]
    exact (X2.out.2.2.keep (by rw [sz]; exact Nat.le_refl _) fun k k1 k2 => setRow_other _ _ _ _ (by omega)).wide (by omega) (by rw [sz]; exact Nat.le_refl _) (Nat.le_refl _)
  go_wp2_with (refine wpList_store_row rfl 26 (.tmp 2) (.tmp 4) rfl w.heap.size _ rfl rfl _ _ X2.out.1 (by kernel_rfl) rfl (by simp [Value.oneCell']) ?_)
  exact bodyPost_ret (results_cell_row Try.results8 _ _ w.heap.size _ _ _ _ rfl (setRow_heap _ w.heap.size _ _ _ _ X2.out.1) Try.underlying26 rfl (by kernel_rfl)) rfl ⟨⟨_, _, rfl, Fi.out, Hbig.out⟩, below_setRow X2.out.2.1 (Nat.le_refl _) _⟩

end Go.Proofs.Ytllmkolchgmjoaa

/-
  The model's drawing of FrameOk's frame. By the verifier.
-/
import Derived.Test.YtddjflaceokoaaaDoorDrawAny
namespace Go.Proofs.YtddjflaceokoaaaDoor
open Go.RowKit

theorem bel_two {B n : Nat} {W w w' : World} (b : Below B W w) (b' : Below B W w') (hs : w.heap.size ≤ w'.heap.size) (hk : ∀ k, k < n → w'.heap[k]? = w.heap[k]?) : Below n w w' :=
  ⟨b'.os.trans b.os.symm, b'.tape.trans b.tape.symm, b'.output.trans b.output.symm, hs, hk⟩

set_option maxHeartbeats 1600000 in
theorem drawFrameOk {W : World} {ac : Option Addr} {len cap : Nat} (hc : Hid (Code W ac len)) (w : World) (bel : Hid (Below W.heap.size W w)) :
    Calls Tryd.prog 21 #[.slice ac len cap] w fun e w' => (∃ (f : Fr) (a : Option Addr) (c : Nat), e = .returned (f.val a c) ∧ f.tags.length ≤ 3 ∧ f.body.size ≤ 1503 ∧ IRow w.heap.size w' (.slice a f.tags.length c) f.tags) ∧ Below w.heap.size w w' := by
  have hle := bel.out.size
  go_enter Tryd.func21, Tryd.ntmps21
  go_wp2_with fail
  have bel' : Hid (Below W.heap.size W (w.alloc (.cells zeroFr 26))) := bel.out.alloc hle _
  refine (drawNew hc _ bel').mono ?_
  rintro e w1 ⟨rfl, c1, b1⟩
  have hs : (w.alloc (.cells zeroFr 26)).heap.size = w.heap.size + 1 := by simp
  rw [hs] at c1 b1 ⊢
  have H1 : Hid (Cur W (w.heap.size + 1) ac len cap w1 ∧ Below w.heap.size w w1 ∧ Boxed w1 w.heap.size zeroFr 26) := ⟨c1, ((Below.refl _ w).alloc (Nat.le_refl _) _).trans (b1.mono (by omega)), (Boxed.new w _ _).below (by omega) b1⟩
  clear c1 b1 bel' hs
  go_wp2_with fail
  refine (drawAny hc _ H1.out.1).mono ?_
  rintro e w2 ⟨⟨f, sa, sc, rfl, hT, hB, hrow⟩, c2, k2⟩
  have H2 : Hid (IRow (w.heap.size + 1) w2 (.slice sa f.tags.length sc) f.tags ∧ Below w.heap.size w w2 ∧ Boxed w2 w.heap.size zeroFr 26) := by
    have q1 := H1.out.2.1.size
    have q2 := k2.size
    have q3 := H1.out.1.lt
    exact ⟨hrow.mono (by omega), bel_two bel.out c2.bel (by omega) fun k hk => (k2.block k (by omega) (by omega)).trans (H1.out.2.1.block k hk), H1.out.2.2.keep (by omega) k2⟩
  clear hrow c2 k2 H1
  obtain ⟨r0, r1, T, r3, r4, r5, r6, r7, r8, sm, bd⟩ := f
  simp only [Fr.val] at hT hB H2 ⊢
  go_wp2_with (refine wpList_store_row rfl 26 (.tmp 2) (.tmp 7) rfl w.heap.size _ rfl rfl _ _ H2.out.2.2 (by kernel_rfl) rfl (frameOne _ _ _ _ _ _ _ _ _ _ _ _ _) ?_)
  refine bodyPost_ret (results_cell_row Tryd.results21 _ _ w.heap.size _ _ _ _ rfl (setRow_heap w2 w.heap.size _ _ _ _ H2.out.2.2) Tryd.underlying26 rfl (by kernel_rfl)) rfl ⟨⟨⟨r0, r1, T, r3, r4, r5, r6, r7, r8, sm, bd⟩, sa, sc, rfl, hT, hB, (irow_other H2.out.1 H2.out.2.2 _).mono (by omega)⟩, below_setRow H2.out.2.1 (Nat.le_refl _) _⟩
end Go.Proofs.YtddjflaceokoaaaDoor

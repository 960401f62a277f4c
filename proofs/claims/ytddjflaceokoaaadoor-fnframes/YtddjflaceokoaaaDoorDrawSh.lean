/-
  The model's drawing of ShowFrame's frame. By the verifier.
-/
import Derived.Test.YtddjflaceokoaaaDoorDrawFo
namespace Go.Proofs.YtddjflaceokoaaaDoor
open Go.RowKit

set_option maxHeartbeats 1600000 in
theorem drawShowFrame {W : World} {ac : Option Addr} {len cap : Nat} (hc : Hid (Code W ac len)) (w : World) (bel : Hid (Below W.heap.size W w)) :
    Calls Tryd.prog 6 #[.slice ac len cap] w fun e w' => (∃ (f : Fr) (a : Option Addr) (c : Nat), e = .returned (f.val a c) ∧ f.tags.length ≤ 3 ∧ f.body.size ≤ 1503 ∧ IRow w.heap.size w' (.slice a f.tags.length c) f.tags) ∧ Below w.heap.size w w' := by
  have hle := bel.out.size
  go_enter Tryd.func6, Tryd.ntmps6
  go_wp2_with fail
  have bel' : Hid (Below W.heap.size W (w.alloc (.cells zeroFr 26))) := bel.out.alloc hle _
  refine (drawFrameOk hc _ bel').mono ?_
  rintro e w2 ⟨⟨f, sa, sc, rfl, hT, hB, hrow⟩, b2⟩
  have H2 : Hid (IRow (w.heap.size + 1) w2 (.slice sa f.tags.length sc) f.tags ∧ Below w.heap.size w w2 ∧ Boxed w2 w.heap.size zeroFr 26) :=
    ⟨hrow.mono (by simp), ((Below.refl _ w).alloc (Nat.le_refl _) _).trans (b2.mono (by simp)), (Boxed.new w _ _).below (by simp) b2⟩
  clear hrow b2 bel'
  obtain ⟨r0, r1, T, r3, r4, r5, r6, r7, r8, sm, bd⟩ := f
  simp only [Fr.val] at hT hB H2 ⊢
  go_wp2_with (refine wpList_store_row rfl 26 (.tmp 2) (.tmp 4) rfl w.heap.size _ rfl rfl _ _ H2.out.2.2 (by kernel_rfl) rfl (frameOne _ _ _ _ _ _ _ _ _ _ _ _ _) ?_)
  refine bodyPost_ret (results_cell_row Tryd.results6 _ _ w.heap.size _ _ _ _ rfl (setRow_heap w2 w.heap.size _ _ _ _ H2.out.2.2) Tryd.underlying26 rfl (by kernel_rfl)) rfl ⟨⟨⟨r0, r1, T, r3, r4, r5, r6, r7, r8, sm, bd⟩, sa, sc, rfl, hT, hB, (irow_other H2.out.1 H2.out.2.2 _).mono (by omega)⟩, below_setRow H2.out.2.1 (Nat.le_refl _) _⟩
end Go.Proofs.YtddjflaceokoaaaDoor

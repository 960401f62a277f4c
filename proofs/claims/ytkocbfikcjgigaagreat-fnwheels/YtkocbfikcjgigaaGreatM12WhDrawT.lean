import Derived.Test.YtkocbfikcjgigaaGreatM2DrawRec
import Derived.Test.YtkocbfikcjgigaaGreatM6WhCopyS
import Derived.Test.YtkocbfikcjgigaaGreatM9RegList
import Derived.Test.YtkocbfikcjgigaaGreatOpAsg
import Derived.Deep.DeepCutAuto
import Derived.Test.YtkocbfikcjgigaaGreatWhDrawL
/-
  A record that was drawn, the cursor and the answer's variable, while a region draws its order. By the verifier, by program.
-/
namespace Go.Proofs.YtkocbfikcjgigaaGreat
open Go.RowKit

/-- What lies behind the record that was drawn: the cursor, the record's variable. -/
structure DrO (t : TypeId) (W : World) (ac : Option Addr) (len cap : Nat) (w : World) (bc B : Nat) (cs : Array Value) (x : World) : Prop where
  cur : Cur W bc ac len cap x
  bel : Below w.heap.size w x
  out : Boxed x B cs t
  hB : bc < B
  hc : w.heap.size < bc
  hW : Below W.heap.size W w
section
variable {t : TypeId} {W : World} {ac : Option Addr} {len cap : Nat} {w : World} {bc B : Nat} {cs : Array Value} {x x' : World}
theorem DrO.draw (h : DrO t W ac len cap w bc B cs x) (c : Cur W bc ac len cap x') (k : Keep bc x x') : DrO t W ac len cap w bc B cs x' := by
  have h2 := h.hB
  have h3 := h.bel.size
  have h5 := h.hc
  exact ⟨c, bel_two h.hW c.bel (Nat.le_trans h3 k.size) fun y hy => (k.block y (by omega) (by omega)).trans (h.bel.block y hy), h.out.keep (by omega) k, h.hB, h.hc, h.hW⟩
theorem DrO.below (h : DrO t W ac len cap w bc B cs x) (g : Below x.heap.size x x') : DrO t W ac len cap w bc B cs x' :=
  ⟨h.cur.below h.cur.lt g, h.bel.trans (g.mono h.bel.size), h.out.below h.out.under g, h.hB, h.hc, h.hW⟩
theorem DrO.row (h : DrO t W ac len cap w bc B cs x) {g : Nat} (hg : w.heap.size ≤ g) (hg2 : g < bc) (ds : Array Value) : DrO t W ac len cap w bc B cs (x.setRow g ds) := by
  have h2 := h.hB
  have h6 := h.hW.size
  have o : ∀ k, k ≠ g → (x.setRow g ds).heap[k]? = x.heap[k]? := fun k hk => setRow_other _ _ _ _ hk
  exact ⟨h.cur.other (B := g) (by omega) o (below_setRow (Below.refl _ _) (by omega) _), below_setRow h.bel hg _, (o B (by omega)).trans h.out, h.hB, h.hc, h.hW⟩
/-- The record's variable filled. -/
theorem DrO.fill (h : DrO t W ac len cap w bc B cs x) (ds : Array Value) : DrO t W ac len cap w bc B ds (x.setRow B ds) := by
  have h2 := h.hB
  have h5 := h.hc
  have h6 := h.hW.size
  have o : ∀ k, k ≠ B → (x.setRow B ds).heap[k]? = x.heap[k]? := fun k hk => setRow_other _ _ _ _ hk
  exact ⟨h.cur.other (B := B) (by omega) o (below_setRow (Below.refl _ _) (by omega) _), below_setRow h.bel (by omega) _, setRow_heap _ _ _ _ _ _ h.out, h.hB, h.hc, h.hW⟩
end
theorem boxKeep {x x' : World} {g bc : Nat} {cs : Array Value} {t : TypeId} (h : Boxed x g cs t) (hg : g ≠ bc) (k : Keep bc x x') : Boxed x' g cs t := by
  unfold Boxed
  rw [k.block g hg h.under]
  exact h
end Go.Proofs.YtkocbfikcjgigaaGreat

/-
  The model's drawing of wheels (WheelOk). By the verifier, by program.
-/
namespace Go.Proofs.YtkocbfikcjgigaaGreat
open Go.RowKit

set_option maxHeartbeats 6400000 in
set_option maxRecDepth 100000 in
theorem dDrawWheelOk {W : World} {ac : Option Addr} {len cap : Nat} (hc : Hid (Code W ac len)) (w : World) (bel : Hid (Below W.heap.size W w)) :
    Calls Tryz.prog 36 #[.slice ac len cap] w fun e w' => (∃ v r, e = .returned v ∧ WhIn w.heap.size w'.heap.size w' v r ∧ r.big ≤ 100) ∧ Below w.heap.size w w' := by
  have hle := bel.out.size
  obtain ⟨w0, hw0⟩ : ∃ w0, w0 = w.alloc (.cells #[.int .i64 0, .slice none 0 0] 29) := ⟨_, rfl⟩
  have hs0 : w0.heap.size = w.heap.size + 1 := by rw [hw0]; simp
  have H0 : Hid (Below W.heap.size W w0 ∧ Below w.heap.size w w0 ∧ Boxed w0 w.heap.size #[.int .i64 0, .slice none 0 0] 29) := by
    rw [hw0]
    exact ⟨bel.out.alloc hle _, (Below.refl _ _).alloc (Nat.le_refl _) _, Boxed.new _ _ _⟩
  have HW0 : Hid (w0 = _) := hw0
  have HS0 : Hid (w0.heap.size = _) := hs0
  clear hw0 hs0
  go_enter Tryz.func36, Tryz.ntmps36
  go_wp2_with fail
  rw [← HW0.out]
  refine (drawNew hc _ H0.out.1).mono ?_
  rintro e w1 ⟨rfl, c1, b1⟩
  rw [HS0.out] at c1 b1 ⊢
  have H1 : Hid (Cur W (w.heap.size + 1) ac len cap w1 ∧ Below w.heap.size w w1 ∧ Boxed w1 w.heap.size #[.int .i64 0, .slice none 0 0] 29 ∧ w.heap.size + 1 < w1.heap.size) := ⟨c1, H0.out.2.1.trans (b1.mono (by omega)), H0.out.2.2.below (by omega) b1, c1.lt⟩
  clear c1 b1 H0 HW0 HS0
  go_wp2_with fail
  refine (drawWheel hc _ H1.out.1).mono ?_
  rintro e w2 ⟨⟨v, r, rfl, i2, hbig⟩, c2, k2⟩
  obtain ⟨p, q, ev⟩ : ∃ p q, v = .agg #[.int .i64 r.step, .slice p r.slots.length q] := by
    obtain ⟨p, q, e, _⟩ := i2
    exact ⟨p, q, e⟩
  subst ev
  have Hbig : Hid (r.big ≤ 100) := hbig
  have X2 : Hid (Boxed w2 w.heap.size #[.int .i64 0, .slice none 0 0] 29 ∧ Below w.heap.size w w2 ∧ WhIn w1.heap.size w2.heap.size w2 (.agg #[.int .i64 r.step, .slice p r.slots.length q]) r ∧ w.heap.size + 1 < w1.heap.size) := by
    have q1 := H1.out.2.1.size
    have q2 := k2.size
    exact ⟨boxKeep H1.out.2.2.1 (by omega) k2, bel_two bel.out c2.bel (by omega) fun k hk => (k2.block k (by omega) (by omega)).trans (H1.out.2.1.block k hk), i2, H1.out.2.2.2⟩
  clear c2 k2 i2 hbig H1
  have Fi : Hid (WhIn w.heap.size (w2.setRow w.heap.size #[.int .i64 r.step, .slice p r.slots.length q]).heap.size (w2.setRow w.heap.size #[.int .i64 r.step, .slice p r.slots.length q]) (.agg #[.int .i64 r.step, .slice p r.slots.length q]) r) := by
    have sz : (w2.setRow w.heap.size #[.int .i64 r.step, .slice p r.slots.length q]).heap.size = w2.heap.size := by simp [World.setRow]
    have h4 := X2.out.2.2.2
    exact (X2.out.2.2.1.keep (by rw [sz]; exact Nat.le_refl _) fun k k1 k2 => setRow_other _ _ _ _ (by omega)).wide (by omega) (by rw [sz]; exact Nat.le_refl _) (Nat.le_refl _)
  go_wp2_with (refine wpList_store_row rfl 29 (.tmp 2) (.tmp 7) rfl w.heap.size _ rfl rfl _ _ X2.out.1 (by kernel_rfl) rfl (by simp [Value.oneCell']) ?_)
  exact bodyPost_ret (results_cell_row Tryz.results36 _ _ w.heap.size _ _ _ _ rfl (setRow_heap _ w.heap.size _ _ _ _ X2.out.1) Tryz.underlying29 rfl (by kernel_rfl)) rfl ⟨⟨_, _, rfl, Fi.out, Hbig.out⟩, below_setRow X2.out.2.1 (Nat.le_refl _) _⟩

end Go.Proofs.YtkocbfikcjgigaaGreat

/-
  The model's drawing of wheels (WheelTake, ToHeap). By the verifier, by program.
-/
namespace Go.Proofs.YtkocbfikcjgigaaGreat
open Go.RowKit

set_option maxHeartbeats 6400000 in
set_option maxRecDepth 100000 in
theorem dDrawWheelTake {W : World} {ac : Option Addr} {len cap : Nat} (hc : Hid (Code W ac len)) (w : World) (bel : Hid (Below W.heap.size W w)) :
    Calls Tryz.prog 9 #[.slice ac len cap] w fun e w' => (∃ v r, e = .returned v ∧ WhIn w.heap.size w'.heap.size w' v r ∧ r.big ≤ 100) ∧ Below w.heap.size w w' := by
  have hle := bel.out.size
  obtain ⟨w0, hw0⟩ : ∃ w0, w0 = w.alloc (.cells #[.int .i64 0, .slice none 0 0] 29) := ⟨_, rfl⟩
  have hs0 : w0.heap.size = w.heap.size + 1 := by rw [hw0]; simp
  have H0 : Hid (Below W.heap.size W w0 ∧ Below w.heap.size w w0 ∧ Boxed w0 w.heap.size #[.int .i64 0, .slice none 0 0] 29) := by
    rw [hw0]
    exact ⟨bel.out.alloc hle _, (Below.refl _ _).alloc (Nat.le_refl _) _, Boxed.new _ _ _⟩
  have HW0 : Hid (w0 = _) := hw0
  have HS0 : Hid (w0.heap.size = _) := hs0
  clear hw0 hs0
  go_enter Tryz.func9, Tryz.ntmps9
  go_wp2_with fail
  rw [← HW0.out]
  refine (dDrawWheelOk hc _ H0.out.1).mono ?_
  rintro e w2 ⟨⟨v, r, rfl, i2, hbig⟩, b2⟩
  obtain ⟨p, q, ev⟩ : ∃ p q, v = .agg #[.int .i64 r.step, .slice p r.slots.length q] := by
    obtain ⟨p, q, e, _⟩ := i2
    exact ⟨p, q, e⟩
  subst ev
  have Hbig : Hid (r.big ≤ 100) := hbig
  have X2 : Hid (Boxed w2 w.heap.size #[.int .i64 0, .slice none 0 0] 29 ∧ Below w.heap.size w w2 ∧ WhIn (w.heap.size + 1) w2.heap.size w2 (.agg #[.int .i64 r.step, .slice p r.slots.length q]) r) := by
    rw [HS0.out] at i2 b2
    exact ⟨H0.out.2.2.below (by omega) b2, H0.out.2.1.trans (b2.mono (by omega)), i2⟩
  clear b2 i2 hbig H0 HS0 HW0
  have Fi : Hid (WhIn w.heap.size (w2.setRow w.heap.size #[.int .i64 r.step, .slice p r.slots.length q]).heap.size (w2.setRow w.heap.size #[.int .i64 r.step, .slice p r.slots.length q]) (.agg #[.int .i64 r.step, .slice p r.slots.length q]) r) := by
    have sz : (w2.setRow w.heap.size #[.int .i64 r.step, .slice p r.slots.length q]).heap.size = w2.heap.size := by simp [World.setRow]
    exact (X2.out.2.2.keep (by rw [sz]; exact Nat.le_refl _) fun k k1 k2 => setRow_other _ _ _ _ (by omega)).wide (by omega) (by rw [sz]; exact Nat.le_refl _) (Nat.le_refl _)
  go_wp2_with (refine wpList_store_row rfl 29 (.tmp 2) (.tmp 4) rfl w.heap.size _ rfl rfl _ _ X2.out.1 (by kernel_rfl) rfl (by simp [Value.oneCell']) ?_)
  exact bodyPost_ret (results_cell_row Tryz.results9 _ _ w.heap.size _ _ _ _ rfl (setRow_heap _ w.heap.size _ _ _ _ X2.out.1) Tryz.underlying29 rfl (by kernel_rfl)) rfl ⟨⟨_, _, rfl, Fi.out, Hbig.out⟩, below_setRow X2.out.2.1 (Nat.le_refl _) _⟩

set_option maxHeartbeats 6400000 in
set_option maxRecDepth 100000 in
theorem dDrawToHeap {W : World} {ac : Option Addr} {len cap : Nat} (hc : Hid (Code W ac len)) (w : World) (bel : Hid (Below W.heap.size W w)) :
    Calls Tryz.prog 11 #[.slice ac len cap] w fun e w' => (∃ v r, e = .returned v ∧ WhIn w.heap.size w'.heap.size w' v r ∧ r.big ≤ 100) ∧ Below w.heap.size w w' := by
  have hle := bel.out.size
  obtain ⟨w0, hw0⟩ : ∃ w0, w0 = w.alloc (.cells #[.int .i64 0, .slice none 0 0] 29) := ⟨_, rfl⟩
  have hs0 : w0.heap.size = w.heap.size + 1 := by rw [hw0]; simp
  have H0 : Hid (Below W.heap.size W w0 ∧ Below w.heap.size w w0 ∧ Boxed w0 w.heap.size #[.int .i64 0, .slice none 0 0] 29) := by
    rw [hw0]
    exact ⟨bel.out.alloc hle _, (Below.refl _ _).alloc (Nat.le_refl _) _, Boxed.new _ _ _⟩
  have HW0 : Hid (w0 = _) := hw0
  have HS0 : Hid (w0.heap.size = _) := hs0
  clear hw0 hs0
  go_enter Tryz.func11, Tryz.ntmps11
  go_wp2_with fail
  rw [← HW0.out]
  refine (dDrawWheelOk hc _ H0.out.1).mono ?_
  rintro e w2 ⟨⟨v, r, rfl, i2, hbig⟩, b2⟩
  obtain ⟨p, q, ev⟩ : ∃ p q, v = .agg #[.int .i64 r.step, .slice p r.slots.length q] := by
    obtain ⟨p, q, e, _⟩ := i2
    exact ⟨p, q, e⟩
  subst ev
  have Hbig : Hid (r.big ≤ 100) := hbig
  have X2 : Hid (Boxed w2 w.heap.size #[.int .i64 0, .slice none 0 0] 29 ∧ Below w.heap.size w w2 ∧ WhIn (w.heap.size + 1) w2.heap.size w2 (.agg #[.int .i64 r.step, .slice p r.slots.length q]) r) := by
    rw [HS0.out] at i2 b2
    exact ⟨H0.out.2.2.below (by omega) b2, H0.out.2.1.trans (b2.mono (by omega)), i2⟩
  clear b2 i2 hbig H0 HS0 HW0
  have Fi : Hid (WhIn w.heap.size (w2.setRow w.heap.size #[.int .i64 r.step, .slice p r.slots.length q]).heap.size (w2.setRow w.heap.size #[.int .i64 r.step, .slice p r.slots.length q]) (.agg #[.int .i64 r.step, .slice p r.slots.length q]) r) := by
    have sz : (w2.setRow w.heap.size #[.int .i64 r.step, .slice p r.slots.length q]).heap.size = w2.heap.size := by simp [World.setRow]
    exact (X2.out.2.2.keep (by rw [sz]; exact Nat.le_refl _) fun k k1 k2 => setRow_other _ _ _ _ (by omega)).wide (by omega) (by rw [sz]; exact Nat.le_refl _) (Nat.le_refl _)
  go_wp2_with (refine wpList_store_row rfl 29 (.tmp 2) (.tmp 4) rfl w.heap.size _ rfl rfl _ _ X2.out.1 (by kernel_rfl) rfl (by simp [Value.oneCell']) ?_)
  exact bodyPost_ret (results_cell_row Tryz.results11 _ _ w.heap.size _ _ _ _ rfl (setRow_heap _ w.heap.size _ _ _ _ X2.out.1) Tryz.underlying29 rfl (by kernel_rfl)) rfl ⟨⟨_, _, rfl, Fi.out, Hbig.out⟩, below_setRow X2.out.2.1 (Nat.le_refl _) _⟩

end Go.Proofs.YtkocbfikcjgigaaGreat

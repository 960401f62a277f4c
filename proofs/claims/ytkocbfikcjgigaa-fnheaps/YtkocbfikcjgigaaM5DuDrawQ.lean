import Derived.Test.YtkocbfikcjgigaaM1DrawRec
import Derived.Test.YtkocbfikcjgigaaStepRow
import Derived.Test.YtkocbfikcjgigaaM3RegList
import Derived.Test.YtkocbfikcjgigaaOpAsg
import Derived.Deep.DeepCutAuto
import Derived.Test.YtkocbfikcjgigaaDuDrawL
/-
  A record that was drawn, the cursor and the answer's variable, while a region draws its order. By the verifier, by program.
-/
namespace Go.Proofs.Ytkocbfikcjgigaa
open Go.RowKit

/-- What lies behind the record that was drawn: the cursor, the record's variable. -/
structure DrO (t : TypeId) (W : World) (ac : Option Addr) (len cap : Nat) (w : World) (bc B : Nat) (cs : Array Value) (x : World) : Prop where
  cur : Cur W bc ac len cap x
  bel : Below w.heap.size w x
  out : Boxed x B cs t
  hB : bc < B
  hc : w.heap.size < bc
  hW : Below W.heap.size W w
section
variable {t : TypeId} {W : World} {ac : Option Addr} {len cap : Nat} {w : World} {bc B : Nat} {cs : Array Value} {x x' : World}
theorem DrO.draw (h : DrO t W ac len cap w bc B cs x) (c : Cur W bc ac len cap x') (k : Keep bc x x') : DrO t W ac len cap w bc B cs x' := by
  have h2 := h.hB
  have h3 := h.bel.size
  have h5 := h.hc
  exact ⟨c, bel_two h.hW c.bel (Nat.le_trans h3 k.size) fun y hy => (k.block y (by omega) (by omega)).trans (h.bel.block y hy), h.out.keep (by omega) k, h.hB, h.hc, h.hW⟩
theorem DrO.below (h : DrO t W ac len cap w bc B cs x) (g : Below x.heap.size x x') : DrO t W ac len cap w bc B cs x' :=
  ⟨h.cur.below h.cur.lt g, h.bel.trans (g.mono h.bel.size), h.out.below h.out.under g, h.hB, h.hc, h.hW⟩
theorem DrO.row (h : DrO t W ac len cap w bc B cs x) {g : Nat} (hg : w.heap.size ≤ g) (hg2 : g < bc) (ds : Array Value) : DrO t W ac len cap w bc B cs (x.setRow g ds) := by
  have h2 := h.hB
  have h6 := h.hW.size
  have o : ∀ k, k ≠ g → (x.setRow g ds).heap[k]? = x.heap[k]? := fun k hk => setRow_other _ _ _ _ hk
  exact ⟨h.cur.other (B := g) (by omega) o (below_setRow (Below.refl _ _) (by omega) _), below_setRow h.bel hg _, (o B (by omega)).trans h.out, h.hB, h.hc, h.hW⟩
/-- The record's variable filled. -/
theorem DrO.fill (h : DrO t W ac len cap w bc B cs x) (ds : Array Value) : DrO t W ac len cap w bc B ds (x.setRow B ds) := by
  have h2 := h.hB
  have h5 := h.hc
  have h6 := h.hW.size
  have o : ∀ k, k ≠ B → (x.setRow B ds).heap[k]? = x.heap[k]? := fun k hk => setRow_other _ _ _ _ hk
  exact ⟨h.cur.other (B := B) (by omega) o (below_setRow (Below.refl _ _) (by omega) _), below_setRow h.bel (by omega) _, setRow_heap _ _ _ _ _ _ h.out, h.hB, h.hc, h.hW⟩
end
theorem boxKeep {x x' : World} {g bc : Nat} {cs : Array Value} {t : TypeId} (h : Boxed x g cs t) (hg : g ≠ bc) (k : Keep bc x x') : Boxed x' g cs t := by
  unfold Boxed
  rw [k.block g hg h.under]
  exact h
end Go.Proofs.Ytkocbfikcjgigaa

/-
  The model's drawing of heaps, of a heap and a due (HeapOk, HeapTake, HeapPut). By the verifier.
-/
namespace Go.Proofs.Ytkocbfikcjgigaa
open Go.RowKit

set_option maxHeartbeats 3200000 in
set_option maxRecDepth 100000 in
theorem dDrawHeapOk {W : World} {ac : Option Addr} {len cap : Nat} (hc : Hid (Code W ac len)) (w : World) (bel : Hid (Below W.heap.size W w)) :
    Calls Try.prog 21 #[.slice ac len cap] w fun e w' => (∃ v l, e = .returned v ∧ DuRow w.heap.size w' v l ∧ l.length ≤ 60) ∧ Below w.heap.size w w' := by
  have hle := bel.out.size
  go_enter Try.func21, Try.ntmps21
  go_wp2_with fail
  refine (drawNew hc _ bel).mono ?_
  rintro e w1 ⟨rfl, c1, b1⟩
  have H1 : Hid (Cur W w.heap.size ac len cap w1 ∧ Below w.heap.size w w1) := ⟨c1, b1⟩
  clear c1 b1
  go_wp2_with fail
  refine (drawDues hc _ H1.out.1).mono ?_
  rintro e w2 ⟨⟨v, l, rfl, r2, hl⟩, c2, k2⟩
  have X : Hid (DuRow w.heap.size w2 v l ∧ l.length ≤ 60 ∧ Below w.heap.size w w2) := by
    have q1 := H1.out.2.size
    have q2 := k2.size
    exact ⟨r2.mono q1, hl, bel_two bel.out c2.bel (by omega) fun k hk => (k2.block k (by omega) (by omega)).trans (H1.out.2.block k hk)⟩
  clear r2 hl c2 k2 H1
  go_wp2
  go_ret
  exact ⟨⟨v, l, rfl, X.out.1, X.out.2.1⟩, X.out.2.2⟩

set_option maxHeartbeats 3200000 in
theorem dDrawHeapTake {W : World} {ac : Option Addr} {len cap : Nat} (hc : Hid (Code W ac len)) (w : World) (bel : Hid (Below W.heap.size W w)) :
    Calls Try.prog 7 #[.slice ac len cap] w fun e w' => (∃ v l, e = .returned v ∧ DuRow w.heap.size w' v l ∧ l.length ≤ 60) ∧ Below w.heap.size w w' := by
  go_enter Try.func7, Try.ntmps7
  go_wp2_with fail
  refine (dDrawHeapOk hc _ bel).mono ?_
  rintro e w2 ⟨⟨v, l, rfl, r2, hl⟩, b2⟩
  have X : Hid (DuRow w.heap.size w2 v l ∧ l.length ≤ 60 ∧ Below w.heap.size w w2) := ⟨r2, hl, b2⟩
  clear r2 hl b2
  go_wp2
  go_ret
  exact ⟨⟨v, l, rfl, X.out.1, X.out.2.1⟩, X.out.2.2⟩

theorem results_tmp_row {P : Program} {fn : Func} {p q : Tmp} {ty : TypeId} (h : fn.results = #[.tmp p, .cell q ty]) (tmps : Array Value) (w : World) (g : Nat) (t : TypeId) (cs : Array Value) (fr : Nat × Nat) (d : TypeDesc) (v : Value)
    (hp : tmps.getD q undef = .pointer (some ⟨g, 0, none⟩)) (hv : tmps.getD p undef = v) (hg : w.heap[g]? = some (.cells cs t fr))
    (hu : P.underlying ty = some d) (hd : (match d with | .struct _ | .array _ _ => true | _ => false) = true) (hi : (P.info? ty).map (·.size) = some cs.size) :
    (results fn tmps).run P w = .ok (.tuple #[v, .agg cs]) w := by
  have hp' : tmps[q]?.getD undef = .pointer (some ⟨g, 0, none⟩) := by simpa using hp
  have hv' : tmps[p]?.getD undef = v := by simpa using hv
  simp [results, h, hp', hv', asAddr, run_loadVar_row w g t ty cs fr d hg hu hd hi]

set_option maxHeartbeats 3200000 in
set_option maxRecDepth 100000 in
theorem dDrawHeapPut {W : World} {ac : Option Addr} {len cap : Nat} (hc : Hid (Code W ac len)) (w : World) (bel : Hid (Below W.heap.size W w)) :
    Calls Try.prog 5 #[.slice ac len cap] w fun e w' => (∃ (v : Value) (l : List Du) (d : Du), e = .returned (.tuple #[v, d.val]) ∧ DuRow w.heap.size w' v l ∧ l.length ≤ 60) ∧ Below w.heap.size w w' := by
  have hle := bel.out.size
  obtain ⟨w0, hw0⟩ : ∃ w0, w0 = w.alloc (.cells #[.int .i64 0, .int .i64 0] 26) := ⟨_, rfl⟩
  have hs0 : w0.heap.size = w.heap.size + 1 := by rw [hw0]; simp
  have H0 : Hid (Below W.heap.size W w0 ∧ Below w.heap.size w w0 ∧ Boxed w0 w.heap.size #[.int .i64 0, .int .i64 0] 26) := by
    rw [hw0]
    exact ⟨bel.out.alloc hle _, (Below.refl _ _).alloc (Nat.le_refl _) _, Boxed.new _ _ _⟩
  have HW0 : Hid (w0 = _) := hw0
  have HS0 : Hid (w0.heap.size = _) := hs0
  clear hw0 hs0
  go_enter Try.func5, Try.ntmps5
  go_wp2_with fail
  rw [← HW0.out]
  refine (drawNew hc _ H0.out.1).mono ?_
  rintro e w1 ⟨rfl, c1, b1⟩
  rw [HS0.out] at c1 b1 ⊢
  have H1 : Hid (Cur W (w.heap.size + 1) ac len cap w1 ∧ Below w.heap.size w w1 ∧ Boxed w1 w.heap.size #[.int .i64 0, .int .i64 0] 26 ∧ w.heap.size + 1 < w1.heap.size) := ⟨c1, H0.out.2.1.trans (b1.mono (by omega)), H0.out.2.2.below (by omega) b1, c1.lt⟩
  clear c1 b1 H0 HW0 HS0
  go_wp2_with fail
  refine (drawDues hc _ H1.out.1).mono ?_
  rintro e w2 ⟨⟨v, l, rfl, r2, hl⟩, c2, k2⟩
  have H2 : Hid (Cur W (w.heap.size + 1) ac len cap w2 ∧ Below w.heap.size w w2 ∧ Boxed w2 w.heap.size #[.int .i64 0, .int .i64 0] 26 ∧ DuRow (w.heap.size + 2) w2 v l ∧ l.length ≤ 60 ∧ w.heap.size + 1 < w2.heap.size) := by
    have q1 := H1.out.2.2.2
    have q2 := k2.size
    exact ⟨c2, bel_two bel.out c2.bel (by have := H1.out.2.1.size; omega) fun k hk => (k2.block k (by omega) (by omega)).trans (H1.out.2.1.block k hk), boxKeep H1.out.2.2.1 (by omega) k2, r2.mono (by omega), hl, by omega⟩
  clear r2 hl c2 k2 H1
  go_wp2_with fail
  refine (drawDue hc _ H2.out.1).mono ?_
  rintro e w3 ⟨⟨v', rfl, d, rfl⟩, c3, k3⟩
  have H3 : Hid (Below w.heap.size w w3 ∧ Boxed w3 w.heap.size #[.int .i64 0, .int .i64 0] 26 ∧ DuRow (w.heap.size + 2) w3 v l ∧ l.length ≤ 60) := by
    have q2 := k3.size
    have q3 := H2.out.2.2.2.2.2
    exact ⟨bel_two bel.out c3.bel (by have := H2.out.2.1.size; omega) fun k hk => (k3.block k (by omega) (by omega)).trans (H2.out.2.1.block k hk), boxKeep H2.out.2.2.1 (by omega) k3, H2.out.2.2.2.1.carry (fun k hk hlt => k3.block k (by have := (H2.out.2.2.2.1.lt k hk).1; omega) hlt), H2.out.2.2.2.2.1⟩
  clear c3 k3 H2
  obtain ⟨d0, d1⟩ := d
  simp only [Du.val]
  go_wp2_with (refine wpList_store_row rfl 26 (.tmp 3) (.tmp 12) rfl w.heap.size #[.int .i64 d0, .int .i64 d1] rfl rfl _ _ H3.out.2.1 (by kernel_rfl) rfl (duOnes _ _) ?_)
  exact bodyPost_ret (results_tmp_row Try.results5 _ _ w.heap.size _ _ _ _ v rfl rfl (setRow_heap _ w.heap.size _ _ _ _ H3.out.2.1) Try.underlying26 rfl (by kernel_rfl)) rfl ⟨⟨v, l, ⟨d0, d1⟩, rfl, DuRow.mono (H3.out.2.2.1.carry (fun k hk _ => setRow_other _ _ _ _ (by have := (H3.out.2.2.1.lt k hk).1; omega))) (by omega), H3.out.2.2.2⟩, below_setRow H3.out.1 (Nat.le_refl _) _⟩
end Go.Proofs.Ytkocbfikcjgigaa

/-
  The model's drawing of a line and a size, for OnLine and OffLine. By the verifier.
-/
import Derived.Test.YthnooglgppboeaaLnDraw
import Derived.Test.YthnooglgppboeaaStepRow
namespace Go.Proofs.Ythnooglgppboeaa
open Go.RowKit

set_option maxHeartbeats 3200000 in
set_option maxRecDepth 100000 in
theorem drawOnLine {W : World} {ac : Option Addr} {len cap : Nat} (hc : Hid (Code W ac len)) (w : World) (bel : Hid (Below W.heap.size W w)) :
    Calls Try.prog 5 #[.slice ac len cap] w fun e w' => (∃ (l : Ln) (n : Int), e = .returned (.tuple #[l.val, .int .i64 n]) ∧ -1 ≤ n ∧ n ≤ 100001) ∧ Below w.heap.size w w' := by
  have hle := bel.out.size
  go_enter Try.func5, Try.ntmps5
  go_wp2_with fail
  have bel' : Hid (Below W.heap.size W (w.alloc (.cells #[.int .i64 0, .int .i64 0, .int .i64 0] 25))) := bel.out.alloc hle _
  refine (drawNew hc _ bel').mono ?_
  rintro e w1 ⟨rfl, c1, b1⟩
  have hs : (w.alloc (.cells #[.int .i64 0, .int .i64 0, .int .i64 0] 25)).heap.size = w.heap.size + 1 := by simp
  rw [hs] at c1 b1 ⊢
  have H1 : Hid (Cur W (w.heap.size + 1) ac len cap w1 ∧ Below w.heap.size w w1 ∧ Boxed w1 w.heap.size #[.int .i64 0, .int .i64 0, .int .i64 0] 25) := ⟨c1, ((Below.refl _ w).alloc (Nat.le_refl _) _).trans (b1.mono (by omega)), (Boxed.new w _ _).below (by omega) b1⟩
  clear c1 b1 bel' hs
  go_wp2_with fail
  refine (drawLine hc _ H1.out.1).mono ?_
  rintro e w2 ⟨⟨v, rfl, l, rfl⟩, c2, k2⟩
  have H2 : Hid (Below w.heap.size w w2 ∧ Boxed w2 w.heap.size #[.int .i64 0, .int .i64 0, .int .i64 0] 25 ∧ Cur W (w.heap.size + 1) ac len cap w2) := by
    have q1 := H1.out.2.1.size
    have q2 := k2.size
    have q3 := H1.out.1.lt
    exact ⟨bel_two bel.out c2.bel (by omega) fun k hk => (k2.block k (by omega) (by omega)).trans (H1.out.2.1.block k hk), H1.out.2.2.keep (by omega) k2, c2⟩
  clear c2 k2 H1
  obtain ⟨r0, r1, r2⟩ := l
  simp only [Ln.val] at H2 ⊢
  go_wp2_with fail
  obtain ⟨cs, hcs⟩ : ∃ cs : Array Value, cs = #[.int .i64 r0, .int .i64 r1, .int .i64 r2] := ⟨_, rfl⟩
  have hone : cs.all (·.oneCell') = true := by rw [hcs]; exact ones3 _ _ _
  have hsz : cs.size = 3 := by rw [hcs]; rfl
  have hin : (Try.prog.info? 25).map (·.size) = some 3 := by kernel_rfl
  obtain ⟨w3, hw3⟩ : ∃ w3, w3 = (w2.alloc (.cells cs 25)).drew := ⟨_, rfl⟩
  have H3 : Hid (Below w.heap.size w w3 ∧ Boxed w3 w.heap.size #[.int .i64 0, .int .i64 0, .int .i64 0] 25 ∧ Cur W (w.heap.size + 1) ac len cap w3 ∧ Boxed w3 w2.heap.size cs 25) := by
    have q1 := H2.out.1.size
    rw [hw3]
    exact ⟨(H2.out.1.alloc q1 _).drew, H2.out.2.1.more _, (H2.out.2.2.alloc _).drew, Boxed.new w2 _ _⟩
  have hle3 : w.heap.size + 1 < w2.heap.size := H2.out.2.2.lt
  generalize w2.heap.size = B5 at H3 hle3 ⊢
  refine wp_region_any (by kernel_rfl) ?_
  rw [← hcs]
  change wpAny _ _ _ _ _ _ _ (World.drew _)
  rw [← hw3]
  clear hw3 H2
  have more : ∀ w4 : World, Cur W (w.heap.size + 1) ac len cap w4 → Keep (w.heap.size + 1) w3 w4 → Below w.heap.size w w4 ∧ Boxed w4 w.heap.size #[.int .i64 0, .int .i64 0, .int .i64 0] 25 ∧ Boxed w4 B5 cs 25 := by
    intro w4 c4 k4
    have q1 := H3.out.1.size
    have q2 := k4.size
    have q3 := H3.out.2.2.1.lt
    exact ⟨bel_two bel.out c4.bel (by omega) fun k hk => (k4.block k (by omega) (by omega)).trans (H3.out.1.block k hk), H3.out.2.1.keep (by omega) k4, H3.out.2.2.2.keep (by omega) k4⟩
  have fin : ∀ (w4 : World) (x : Int), Below w.heap.size w w4 ∧ Boxed w4 w.heap.size #[.int .i64 0, .int .i64 0, .int .i64 0] 25 → -1 ≤ x → x ≤ 100001 →
      ∀ a : Act, a.tmps.getD 2 undef = .pointer (some ⟨w.heap.size, 0, none⟩) → a.tmps.getD 3 undef = .int .i64 x → a.defers = [] →
      bodyPost Try.prog Try.f5 (fun e w' => (∃ (l : Ln) (n : Int), e = .returned (.tuple #[l.val, .int .i64 n]) ∧ -1 ≤ n ∧ n ≤ 100001) ∧ Below w.heap.size w w') .ret a (w4.setRow w.heap.size cs) := by
    intro w4 x h x0 x1 a h2 h3 h4
    exact bodyPost_ret (results_row_tmp Try.results5 _ _ w.heap.size _ cs _ _ _ h2 h3 (setRow_heap w4 w.heap.size _ _ _ _ h.2) Try.underlying25 rfl (by rw [hin, hsz])) h4 ⟨⟨⟨r0, r1, r2⟩, x, by rw [hcs]; rfl, x0, x1⟩, below_setRow h.1 (Nat.le_refl _) _⟩
  refine wpAny_take (i := 1) (v := .pointer (some ⟨w.heap.size + 1, 0, none⟩)) rfl (by kernel_rfl) (by kernel_rfl) (by kernel_rfl) (fun _ _ _ h => h) (Or.inl ⟨by rfl, fun w => by rfl⟩) ?_
  refine wpAny_ready (rs := [0, 2]) (by kernel_rfl) (by simp) ?_
  refine AllReady.cons rfl (fun K hK => ?_) (AllReady.cons rfl (fun K hK => ?_) AllReady.nil)
  · refine step_load_row rfl 25 (.tmp 5) rfl B5 rfl _ cs _ _ H3.out.2.2.2 Try.underlying25 rfl (by rw [hin, hsz]) (hK _ _ ?_)
    clear hK K
    refine wpAny_ready (rs := [2]) (by kernel_rfl) (by simp) (AllReady.cons rfl (fun K hK => ?_) AllReady.nil)
    refine stepCall rfl 16 rfl #[.pointer (some ⟨w.heap.size + 1, 0, none⟩)] (by kernel_rfl) (drawSize hc _ H3.out.2.2.1) ?_
    rintro e w4 ⟨⟨x, rfl, x0, x1⟩, c4, k4⟩
    refine ⟨_, rfl, hK _ _ ?_⟩
    clear hK K
    have M := more w4 c4 k4
    clear c4 k4
    refine wpAny_ready (rs := [3]) (by kernel_rfl) (by simp) (AllReady.cons rfl (fun K hK => ?_) AllReady.nil)
    refine step_store_row rfl 25 (.tmp 2) (.tmp 10) rfl w.heap.size cs rfl rfl _ _ M.2.1 (by rw [hin, hsz]) (by rw [hsz]; rfl) hone (hK _ _ ?_)
    clear hK K
    refine wpAny_take (i := 4) (v := .int .i64 x) rfl (by kernel_rfl) (by kernel_rfl) (by kernel_rfl) (fun _ _ _ h => h) (Or.inl ⟨by rfl, fun w => by rfl⟩) ?_
    refine wpAny_done (by kernel_rfl) ?_ _
    go_wp2
    refine fin w4 x ⟨M.1, M.2.1⟩ x0 x1 _ ?_ ?_ ?_ <;> rfl
  · refine stepCall rfl 16 rfl #[.pointer (some ⟨w.heap.size + 1, 0, none⟩)] (by kernel_rfl) (drawSize hc _ H3.out.2.2.1) ?_
    rintro e w4 ⟨⟨x, rfl, x0, x1⟩, c4, k4⟩
    refine ⟨_, rfl, hK _ _ ?_⟩
    clear hK K
    have M := more w4 c4 k4
    clear c4 k4
    refine wpAny_ready (rs := [0]) (by kernel_rfl) (by simp) (AllReady.cons rfl (fun K hK => ?_) AllReady.nil)
    refine step_load_row rfl 25 (.tmp 5) rfl B5 rfl _ cs _ _ M.2.2 Try.underlying25 rfl (by rw [hin, hsz]) (hK _ _ ?_)
    clear hK K
    refine wpAny_ready (rs := [3]) (by kernel_rfl) (by simp) (AllReady.cons rfl (fun K hK => ?_) AllReady.nil)
    refine step_store_row rfl 25 (.tmp 2) (.tmp 10) rfl w.heap.size cs rfl rfl _ _ M.2.1 (by rw [hin, hsz]) (by rw [hsz]; rfl) hone (hK _ _ ?_)
    clear hK K
    refine wpAny_take (i := 4) (v := .int .i64 x) rfl (by kernel_rfl) (by kernel_rfl) (by kernel_rfl) (fun _ _ _ h => h) (Or.inl ⟨by rfl, fun w => by rfl⟩) ?_
    refine wpAny_done (by kernel_rfl) ?_ _
    go_wp2
    refine fin w4 x ⟨M.1, M.2.1⟩ x0 x1 _ ?_ ?_ ?_ <;> rfl

set_option maxHeartbeats 1600000 in
theorem drawOffLine {W : World} {ac : Option Addr} {len cap : Nat} (hc : Hid (Code W ac len)) (w : World) (bel : Hid (Below W.heap.size W w)) :
    Calls Try.prog 7 #[.slice ac len cap] w fun e w' => (∃ (l : Ln) (n : Int), e = .returned (.tuple #[l.val, .int .i64 n]) ∧ -1 ≤ n ∧ n ≤ 100001) ∧ Below w.heap.size w w' := by
  have hle := bel.out.size
  have X : Hid (Below W.heap.size W (w.alloc (.cells #[.int .i64 0, .int .i64 0, .int .i64 0] 25)) ∧ Boxed (w.alloc (.cells #[.int .i64 0, .int .i64 0, .int .i64 0] 25)) w.heap.size #[.int .i64 0, .int .i64 0, .int .i64 0] 25 ∧ Below w.heap.size w (w.alloc (.cells #[.int .i64 0, .int .i64 0, .int .i64 0] 25))) :=
    ⟨bel.out.alloc hle _, Boxed.new _ _ _, (Below.refl _ _).alloc (Nat.le_refl _) _⟩
  go_enter Try.func7, Try.ntmps7
  go_wp2_with fail
  refine (drawOnLine hc _ X.out.1).mono ?_
  rintro e w1 ⟨⟨l, n, rfl, n0, n1⟩, q⟩
  have X1 : Hid (Boxed w1 w.heap.size #[.int .i64 0, .int .i64 0, .int .i64 0] 25 ∧ Below w.heap.size w w1) := ⟨X.out.2.1.below X.out.2.1.under q, X.out.2.2.trans (q.mono X.out.2.2.size)⟩
  clear q X
  obtain ⟨r0, r1, r2⟩ := l
  simp only [Ln.val] at *
  go_wp2_with (refine wpList_store_row rfl 25 (.tmp 2) (.tmp 6) rfl w.heap.size #[.int .i64 r0, .int .i64 r1, .int .i64 r2] rfl rfl _ _ X1.out.1 (by kernel_rfl) rfl (ones3 _ _ _) ?_)
  exact bodyPost_ret (results_row_tmp Try.results7 _ _ w.heap.size _ #[.int .i64 r0, .int .i64 r1, .int .i64 r2] _ _ (.int .i64 n) rfl rfl (setRow_heap w1 w.heap.size _ _ _ _ X1.out.1) Try.underlying25 rfl (by kernel_rfl)) rfl ⟨⟨⟨r0, r1, r2⟩, n, rfl, n0, n1⟩, below_setRow X1.out.2 (Nat.le_refl _) _⟩
end Go.Proofs.Ythnooglgppboeaa

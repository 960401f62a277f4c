/-
  The model's drawing of a frame and a mark. By the verifier.
-/
import Derived.Test.YtppgidcebhfjkaaDrawFr
namespace Go.Proofs.Ytppgidcebhfjkaa
open Go.RowKit

/-- A struct loaded whole, as a step of a region that draws. -/
theorem step_load_row {P : Program} {ops : Array Oper} {o : Oper} {a : Act} {w : World} {K : Act → World → Prop} {Q : Exit → Act → World → Prop} {E : Prop} (hgd : o.guard = none) (ty : TypeId) (x : Operand) (ho : o.op = .load ty x)
    (g : Nat) (hx : a.eval x = .pointer (some ⟨g, 0, none⟩)) (t : TypeId) (cs : Array Value) (fr : Nat × Nat) (d : TypeDesc) (hg : w.heap[g]? = some (.cells cs t fr))
    (hu : P.underlying ty = some d) (hd : (match d with | .struct _ | .array _ _ => true | _ => false) = true) (hi : (P.info? ty).map (·.size) = some cs.size)
    (h : K (a.put o.dst (.agg cs)) w) : if Region.wanted o (yielded ops a.tmps) = true then Oper.wp P o a w K Q else E := by
  rw [if_pos (by simp [Region.wanted, hgd])]
  exact wp_load_row ty x ho g hx t cs fr d hg hu hd hi h
/-- A struct stored whole, as a step of a region that draws. -/
theorem step_store_row {P : Program} {ops : Array Oper} {o : Oper} {a : Act} {w : World} {K : Act → World → Prop} {Q : Exit → Act → World → Prop} {E : Prop} (hgd : o.guard = none) (ty : TypeId) (x y : Operand) (ho : o.op = .store ty x y)
    (g : Nat) (cells : Array Value) (hx : a.eval x = .pointer (some ⟨g, 0, none⟩)) (hy : a.eval y = .agg cells)
    (t : TypeId) (old : Array Value) (hg : w.heap[g]? = some (.cells old t (0, 0))) (hi : (P.info? ty).map (·.size) = some cells.size)
    (hold : old.size = cells.size) (h1 : cells.all (·.oneCell') = true)
    (h : K (a.put o.dst undef) (w.setRow g cells)) : if Region.wanted o (yielded ops a.tmps) = true then Oper.wp P o a w K Q else E := by
  rw [if_pos (by simp [Region.wanted, hgd])]
  exact wp_store_row ty x y ho g cells hx hy t old hg hi hold h1 h
/-- Results: a struct variable and a slot. -/
theorem results_row_tmp {P : Program} {fn : Func} {p q : Tmp} {ty : TypeId} (h : fn.results = #[.cell p ty, .tmp q]) (tmps : Array Value) (w : World) (g : Nat) (t : TypeId) (cs : Array Value) (fr : Nat × Nat) (d : TypeDesc) (v : Value)
    (hp : tmps.getD p undef = .pointer (some ⟨g, 0, none⟩)) (hv : tmps.getD q undef = v) (hg : w.heap[g]? = some (.cells cs t fr))
    (hu : P.underlying ty = some d) (hd : (match d with | .struct _ | .array _ _ => true | _ => false) = true) (hi : (P.info? ty).map (·.size) = some cs.size) :
    (results fn tmps).run P w = .ok (.tuple #[.agg cs, v]) w := by
  have hp' : tmps[p]?.getD undef = .pointer (some ⟨g, 0, none⟩) := by simpa using hp
  have hv' : tmps[q]?.getD undef = v := by simpa using hv
  simp [results, h, hp', hv', asAddr, run_loadVar_row w g t ty cs fr d hg hu hd hi]

set_option maxHeartbeats 1600000 in
theorem drawMarked {W : World} {ac : Option Addr} {len cap : Nat} (hc : Hid (Code W ac len)) (w : World) (bel : Hid (Below W.heap.size W w)) :
    Calls Try.prog 7 #[.slice ac len cap] w fun e w' => (∃ (f : Fr) (a : Option Addr) (c : Nat) (m : Int), e = .returned (.tuple #[f.val a c, .int .i64 m]) ∧ f.tags.length ≤ 3 ∧ f.body.size ≤ 1503 ∧ IRow w.heap.size w' (.slice a f.tags.length c) f.tags) ∧ Below w.heap.size w w' := by
  have hle := bel.out.size
  go_enter Try.func7, Try.ntmps7
  go_wp2_with fail
  have bel' : Hid (Below W.heap.size W (w.alloc (.cells zeroFr 29))) := bel.out.alloc hle _
  refine (drawNew hc _ bel').mono ?_
  rintro e w1 ⟨rfl, c1, b1⟩
  have hs : (w.alloc (.cells zeroFr 29)).heap.size = w.heap.size + 1 := by simp
  rw [hs] at c1 b1 ⊢
  have H1 : Hid (Cur W (w.heap.size + 1) ac len cap w1 ∧ Below w.heap.size w w1 ∧ Boxed w1 w.heap.size zeroFr 29) := ⟨c1, ((Below.refl _ w).alloc (Nat.le_refl _) _).trans (b1.mono (by omega)), (Boxed.new w _ _).below (by omega) b1⟩
  clear c1 b1 bel' hs
  go_wp2_with fail
  refine (drawAny hc _ H1.out.1).mono ?_
  rintro e w2 ⟨⟨f, sa, sc, rfl, hT, hB, hrow⟩, c2, k2⟩
  have H2 : Hid (IRow (w.heap.size + 2) w2 (.slice sa f.tags.length sc) f.tags ∧ Below w.heap.size w w2 ∧ Boxed w2 w.heap.size zeroFr 29 ∧ Cur W (w.heap.size + 1) ac len cap w2) := by
    have q1 := H1.out.2.1.size
    have q2 := k2.size
    have q3 := H1.out.1.lt
    exact ⟨hrow.mono (by omega), bel_two bel.out c2.bel (by omega) fun k hk => (k2.block k (by omega) (by omega)).trans (H1.out.2.1.block k hk), H1.out.2.2.keep (by omega) k2, c2⟩
  clear hrow c2 k2 H1
  obtain ⟨r0, r1, T, r3, r4, r5, r6, r7, r8, sm, bd⟩ := f
  simp only [Fr.val] at hT hB H2 ⊢
  go_wp2_with fail
  obtain ⟨cs, hcs⟩ : ∃ cs : Array Value, cs = #[.int .i64 r0, .int .i64 r1, .slice sa T.length sc, .int .i64 r3, .int .i64 r4, .int .i64 r5, .int .i64 r6, .int .i64 r7, .int .i64 r8, .int .i64 sm, .string bd] := ⟨_, rfl⟩
  have hone : cs.all (·.oneCell') = true := by rw [hcs]; exact frameOne _ _ _ _ _ _ _ _ _ _ _ _ _
  have hsz : cs.size = 11 := by rw [hcs]; rfl
  have hin : (Try.prog.info? 29).map (·.size) = some 11 := by kernel_rfl
  obtain ⟨w3, hw3⟩ : ∃ w3, w3 = (w2.alloc (.cells cs 29)).drew := ⟨_, rfl⟩
  have H3 : Hid (IRow (w.heap.size + 2) w3 (.slice sa T.length sc) T ∧ Below w.heap.size w w3 ∧ Boxed w3 w.heap.size zeroFr 29 ∧ Cur W (w.heap.size + 1) ac len cap w3 ∧ Boxed w3 w2.heap.size cs 29) := by
    have q1 := H2.out.2.1.size
    rw [hw3]
    exact ⟨World.ownsRow.drew (World.ownsRow.alloc H2.out.1 _), (H2.out.2.1.alloc q1 _).drew, H2.out.2.2.1.more _, (H2.out.2.2.2.alloc _).drew, Boxed.new w2 _ _⟩
  have hle3 : w.heap.size + 1 < w2.heap.size := H2.out.2.2.2.lt
  generalize w2.heap.size = B5 at H3 hle3 ⊢
  refine wp_region_any (by kernel_rfl) ?_
  rw [← hcs]
  change wpAny _ _ _ _ _ _ _ (World.drew _)
  rw [← hw3]
  clear hw3 H2
  have more : ∀ w4 : World, Cur W (w.heap.size + 1) ac len cap w4 → Keep (w.heap.size + 1) w3 w4 → IRow (w.heap.size + 2) w4 (.slice sa T.length sc) T ∧ Below w.heap.size w w4 ∧ Boxed w4 w.heap.size zeroFr 29 ∧ Boxed w4 B5 cs 29 := by
    intro w4 c4 k4
    have q1 := H3.out.2.1.size
    have q2 := k4.size
    have q3 := H3.out.2.2.2.1.lt
    refine ⟨H3.out.1.carry fun k hk hl => k4.block k (by omega) hl, bel_two bel.out c4.bel (by omega) fun k hk => (k4.block k (by omega) (by omega)).trans (H3.out.2.1.block k hk), H3.out.2.2.1.keep (by omega) k4, H3.out.2.2.2.2.keep (by omega) k4⟩
  have fin : ∀ (w4 : World) (x : Int), IRow (w.heap.size + 2) w4 (.slice sa T.length sc) T ∧ Below w.heap.size w w4 ∧ Boxed w4 w.heap.size zeroFr 29 →
      ∀ a : Act, a.tmps.getD 2 undef = .pointer (some ⟨w.heap.size, 0, none⟩) → a.tmps.getD 3 undef = .int .i64 x → a.defers = [] →
      bodyPost Try.prog Try.f7 (fun e w' => (∃ (f : Fr) (a : Option Addr) (c : Nat) (m : Int), e = .returned (.tuple #[f.val a c, .int .i64 m]) ∧ f.tags.length ≤ 3 ∧ f.body.size ≤ 1503 ∧ IRow w.heap.size w' (.slice a f.tags.length c) f.tags) ∧ Below w.heap.size w w') .ret a (w4.setRow w.heap.size cs) := by
    intro w4 x h a h2 h3 h4
    refine bodyPost_ret (results_row_tmp Try.results7 _ _ w.heap.size _ cs _ _ _ h2 h3 (setRow_heap w4 w.heap.size _ _ _ _ h.2.2) Try.underlying29 rfl (by rw [hin, hsz])) h4 ⟨⟨⟨r0, r1, T, r3, r4, r5, r6, r7, r8, sm, bd⟩, sa, sc, x, by rw [hcs]; rfl, hT, hB, (irow_other h.1 h.2.2 _).mono (by omega)⟩, below_setRow h.2.1 (Nat.le_refl _) _⟩
  refine wpAny_take (i := 1) (v := .pointer (some ⟨w.heap.size + 1, 0, none⟩)) rfl (by kernel_rfl) (by kernel_rfl) (by kernel_rfl) (fun _ _ _ h => h) (Or.inl ⟨by rfl, fun w => by rfl⟩) ?_
  refine wpAny_ready (rs := [0, 2]) (by kernel_rfl) (by simp) ?_
  refine AllReady.cons rfl (fun K hK => ?_) (AllReady.cons rfl (fun K hK => ?_) AllReady.nil)
  · refine step_load_row rfl 29 (.tmp 5) rfl B5 rfl _ cs _ _ H3.out.2.2.2.2 Try.underlying29 rfl (by rw [hin, hsz]) (hK _ _ ?_)
    clear hK K
    refine wpAny_ready (rs := [2]) (by kernel_rfl) (by simp) (AllReady.cons rfl (fun K hK => ?_) AllReady.nil)
    refine step_call rfl 24 rfl #[.pointer (some ⟨w.heap.size + 1, 0, none⟩), .int .i64 (-1), .int .i64 6] (by kernel_rfl) (drawFrom hc (-1) 6 (by omega) (by omega) (by omega) _ H3.out.2.2.2.1) ?_
    rintro e w4 ⟨⟨x, rfl, -, -⟩, c4, k4⟩
    refine ⟨_, rfl, hK _ _ ?_⟩
    clear hK K
    have M := more w4 c4 k4
    clear c4 k4
    refine wpAny_ready (rs := [3]) (by kernel_rfl) (by simp) (AllReady.cons rfl (fun K hK => ?_) AllReady.nil)
    refine step_store_row rfl 29 (.tmp 2) (.tmp 10) rfl w.heap.size cs rfl rfl _ _ M.2.2.1 (by rw [hin, hsz]) (by rw [hsz]; rfl) hone (hK _ _ ?_)
    clear hK K
    refine wpAny_take (i := 4) (v := .int .i64 x) rfl (by kernel_rfl) (by kernel_rfl) (by kernel_rfl) (fun _ _ _ h => h) (Or.inl ⟨by rfl, fun w => by rfl⟩) ?_
    refine wpAny_done (by kernel_rfl) ?_ _
    go_wp2
    refine fin w4 x ⟨M.1, M.2.1, M.2.2.1⟩ _ ?_ ?_ ?_ <;> rfl
  · refine step_call rfl 24 rfl #[.pointer (some ⟨w.heap.size + 1, 0, none⟩), .int .i64 (-1), .int .i64 6] (by kernel_rfl) (drawFrom hc (-1) 6 (by omega) (by omega) (by omega) _ H3.out.2.2.2.1) ?_
    rintro e w4 ⟨⟨x, rfl, -, -⟩, c4, k4⟩
    refine ⟨_, rfl, hK _ _ ?_⟩
    clear hK K
    have M := more w4 c4 k4
    clear c4 k4
    refine wpAny_ready (rs := [0]) (by kernel_rfl) (by simp) (AllReady.cons rfl (fun K hK => ?_) AllReady.nil)
    refine step_load_row rfl 29 (.tmp 5) rfl B5 rfl _ cs _ _ M.2.2.2 Try.underlying29 rfl (by rw [hin, hsz]) (hK _ _ ?_)
    clear hK K
    refine wpAny_ready (rs := [3]) (by kernel_rfl) (by simp) (AllReady.cons rfl (fun K hK => ?_) AllReady.nil)
    refine step_store_row rfl 29 (.tmp 2) (.tmp 10) rfl w.heap.size cs rfl rfl _ _ M.2.2.1 (by rw [hin, hsz]) (by rw [hsz]; rfl) hone (hK _ _ ?_)
    clear hK K
    refine wpAny_take (i := 4) (v := .int .i64 x) rfl (by kernel_rfl) (by kernel_rfl) (by kernel_rfl) (fun _ _ _ h => h) (Or.inl ⟨by rfl, fun w => by rfl⟩) ?_
    refine wpAny_done (by kernel_rfl) ?_ _
    go_wp2
    refine fin w4 x ⟨M.1, M.2.1, M.2.2.1⟩ _ ?_ ?_ ?_ <;> rfl
end Go.Proofs.Ytppgidcebhfjkaa

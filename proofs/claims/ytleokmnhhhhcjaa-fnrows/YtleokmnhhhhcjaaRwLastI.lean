/-
  One item put behind a list whose room ends there: a list of its own; the walk of the program's withLast. By the verifier.
-/
import Derived.Test.YtleokmnhhhhcjaaItCpy
import Derived.Test.YtleokmnhhhhcjaaM0IzPlain
import Derived.Laws.AppendOwn
import Derived.Deep.RegionLaw
namespace Go.Proofs.Ytleokmnhhhhcjaa
open Go.RowKit

theorem ItsAt.src {w : World} {b off : Nat} {L : List It} (h : ItsAt w (some ⟨b, off, none⟩) L) : ∀ j v, (itcells L)[j]? = some v → w.cell? ((⟨b, off, none⟩ : Addr).add j) = some v := by
  intro j u hj
  have hj' : j < L.length * 3 := by
    have := (List.getElem?_eq_some_iff.1 hj).1
    rwa [itcells_length] at this
  obtain ⟨k, i, rfl, hi⟩ : ∃ k i, j = k * 3 + i ∧ i < 3 := ⟨j / 3, j % 3, by omega, Nat.mod_lt _ (by omega)⟩
  have hk : k < L.length := by omega
  obtain ⟨b', off', e, _, c0, c1, c2⟩ := h k hk
  cases e
  obtain ⟨e0, e1, e2⟩ := itcells_get L k hk
  rw [show (⟨b, off, none⟩ : Addr).add (k * 3 + i) = ⟨b, off + k * 3 + i, none⟩ by by_cases h0 : k * 3 + i = 0 <;> simp [Addr.add, h0, Nat.add_assoc]; omega]
  match i, hi with
  | 0, _ => rw [Nat.add_zero] at hj; rw [e0] at hj; rw [Nat.add_zero, c0]; exact hj
  | 1, _ => rw [e1] at hj; rw [c1]; exact hj
  | 2, _ => rw [e2] at hj; rw [c2]; exact hj
/-- A list of its own out of what an append lays. -/
theorem it_grown (w : World) (L : List It) (r : It) (cap : Nat) (z : Array Value) (hz : z.size = 3) (hge : L.length + 1 ≤ cap) (hcm : cap ≤ maxLen) :
    ItRow w.heap.size (w.drew.alloc (.cells ((itcells L).toArray ++ r.cells.toArray ++ Builtin.zeroCells z (cap - (L.length + 1))) 28)) (.slice (some ⟨w.heap.size, 0, none⟩) (L.length + 1) cap) (L ++ [r]) := by
  have hlen : (itcells (L ++ [r])).length = (L.length + 1) * 3 := by rw [itcells_length]; simp
  have hcat : itcells (L ++ [r]) = itcells L ++ r.cells := by rw [itcells_append]; simp [itcells]
  unfold ItRow
  rw [List.length_append, List.length_singleton]
  refine ⟨hlen, .inr ⟨w.heap.size, _, _, rfl, Nat.le_refl _, heap_alloc_new w.drew _, hge, hcm, ?_, ?_⟩⟩
  · simp only [Array.size_append, List.size_toArray, size_zeroCells, hz, itcells_length]
    show L.length * 3 + 3 + (cap - (L.length + 1)) * 3 = cap * 3
    omega
  · simp only [Array.toList_append]
    rw [← hlen, hcat]
    exact List.take_left
theorem it_app_full (w : World) (ty : TypeId) (a : Option Addr) (L : List It) (r : It) (h : ItsAt w a L) (hl : L.length ≤ 1048576) :
    ∃ v' w', (Builtin.append_ #[41, 41] ty #[.slice a L.length L.length, .slice (some ⟨w.heap.size, 0, none⟩) 1 1]).run Try.prog (w.alloc (.cells r.cells.toArray 28)) = .ok v' w' ∧ ItRow w.heap.size w' v' (L ++ [r]) ∧ Below w.heap.size w w' := by
  obtain ⟨i0, hi0, hz0, hz1, hz2⟩ := info_parts itInfo
  obtain ⟨W, hW⟩ : ∃ W, W = w.alloc (.cells r.cells.toArray 28) := ⟨_, rfl⟩
  have hsz : W.heap.size = w.heap.size + 1 := by rw [hW]; simp
  have hnews : ∀ j v, r.cells[j]? = some v → W.cell? ((⟨w.heap.size, 0, none⟩ : Addr).add j) = some v := by
    have hnew : (w.alloc (.cells r.cells.toArray 28)).ownsRow w.heap.size 28 3 (.slice (some ⟨w.heap.size, 0, none⟩) 1 1) 1 r.cells := World.ownsRow_lit (size := 3) w r.cells.toArray 1 (Nat.le_refl _) (by unfold maxLen; omega) rfl
    rw [hW]
    exact hnew.cells (g := w.heap.size) rfl
  have hb0 : Below w.heap.size w W := by rw [hW]; exact (Below.refl _ _).alloc (Nat.le_refl _) _
  have hA : ItsAt W a L := h.below hb0
  have bel : ∀ o, Below w.heap.size w (W.drew.alloc o) := fun o => hb0.drew.alloc (by show w.heap.size ≤ W.heap.size; omega) _
  rw [← hW]
  cases a with
  | none =>
    obtain rfl := hA.empty
    have hr := run_append_nil (P := Try.prog) W 41 ty 28 i0 (.agg #[.int .i64 0, .int .i64 0, .int .i64 0]) Try.underlying41 hi0 hz0 ⟨w.heap.size, 0, none⟩ 1 1 r.cells (by rw [hz1]; rfl) hnews (by omega) (by omega) (by rw [hz2]; omega)
    refine ⟨_, _, hr, ?_, bel _⟩
    have hge := grownCap_ge W 1 0 28
    have hcm := grownCap_le_maxLen W 1 0 28 (by unfold maxLen; omega)
    have := it_grown W [] r (grownCap W 1 0 28) (Value.cells (.agg #[.int .i64 0, .int .i64 0, .int .i64 0])) rfl hge hcm
    simp only [itcells_nil, Array.empty_append, List.length_nil, Nat.zero_add] at this
    exact ItRow.mono this (by omega)
  | some ad =>
    cases L with
    | nil =>
      have hr := run_append_grow (P := Try.prog) W 41 ty 28 i0 (.agg #[.int .i64 0, .int .i64 0, .int .i64 0]) Try.underlying41 hi0 hz0 ad 0 0 [] (by simp) (by simp) ⟨w.heap.size, 0, none⟩ 1 1 r.cells (by rw [hz1]; rfl) hnews (by omega) (by omega) (growslice_fits (by omega) (by rw [hz2]; omega))
      refine ⟨_, _, hr, ?_, bel _⟩
      exact ItRow.mono (it_grown W [] r _ _ rfl (grownCap_ge W _ _ _) (grownCap_le_maxLen W _ _ _ (by unfold maxLen; omega))) (by omega)
    | cons x xs =>
      obtain ⟨b, off, ha, _⟩ := hA 0 (by simp)
      cases ha
      have hr := run_append_grow (P := Try.prog) W 41 ty 28 i0 (.agg #[.int .i64 0, .int .i64 0, .int .i64 0]) Try.underlying41 hi0 hz0 ⟨b, off, none⟩ (x :: xs).length (x :: xs).length (itcells (x :: xs)) (by rw [hz1]; exact itcells_length _) hA.src ⟨w.heap.size, 0, none⟩ 1 1 r.cells (by rw [hz1]; rfl) hnews (by omega) (by omega) (growslice_fits (by omega) (by rw [hz2]; omega))
      refine ⟨_, _, hr, ?_, bel _⟩
      exact ItRow.mono (it_grown W (x :: xs) r _ _ rfl (grownCap_ge W _ _ _) (grownCap_le_maxLen W _ _ _ (by unfold maxLen; omega))) (by omega)
/-- As a step of a region that draws. -/
theorem it_step_full {ops : Array Oper} {o : Oper} {a : Act} {w wx : World} {K : Act → World → Prop} {Q : Exit → Act → World → Prop} {E : Prop} (hgd : o.guard = none) (s x : Operand)
    (ho : o.op = .call { callee := .builtin .append, args := #[s, x], argTypes := #[41, 41] })
    (a0 : Option Addr) (L : List It) (n : Nat) (hL : L.length = n) (r : It) (hwx : wx = w.alloc (.cells r.cells.toArray 28)) (hs : a.eval s = .slice a0 n n) (hM : ItsAt w a0 L) {m : Nat} (hx : a.eval x = .slice (some ⟨m, 0, none⟩) 1 1) (hm : m = w.heap.size)
    (hlen : L.length ≤ 1048576)
    (h : ∀ v' w', ItRow w.heap.size w' v' (L ++ [r]) → Below w.heap.size w w' → K (a.put o.dst v') w') :
    if Region.wanted o (yielded ops a.tmps) = true then Oper.wp Try.prog o a wx K Q else E := by
  subst hwx
  subst hm
  subst hL
  rw [if_pos (by simp [Region.wanted, hgd])]
  obtain ⟨v', w', hrun, h1, h2⟩ := it_app_full w o.type a0 L r hM hlen
  unfold Oper.wp
  simp [execOp, ho, resolve, invoke, builtin, hs, hx, hrun, Result.andThen]
  exact h v' w' h1 h2

set_option maxHeartbeats 3200000 in
set_option maxRecDepth 100000 in
theorem implWithLast (a : Option Addr) (c : Nat) (L : List It) (r : It) (w : World) (hT : L.length ≤ 1048576) (hc : L.length ≤ c) (hn : a = none → c = 0) (h : Hid (ItsAt w a L)) :
    Calls Try.prog 28 #[.slice a L.length c, r.val] w fun e w' => (∃ v, e = .returned v ∧ ItRow w.heap.size w' v (L ++ [r])) ∧ Below w.heap.size w w' := by
  obtain ⟨n, hL⟩ : ∃ n, L.length = n := ⟨_, rfl⟩
  have Hmax : Hid (L.length ≤ 1048576) := hT
  rw [hL] at hT hc ⊢
  have HL : Hid (L.length = n) := hL
  clear hL
  obtain ⟨x0, x1, x2⟩ := r
  simp only [It.val]
  have X : Hid (ItsAt (w.alloc (.cells #[.int .i64 x0, .int .i64 x1, .int .i64 x2] 28)) a L ∧ Below w.heap.size w (w.alloc (.cells #[.int .i64 x0, .int .i64 x1, .int .i64 x2] 28)) ∧ Boxed (w.alloc (.cells #[.int .i64 x0, .int .i64 x1, .int .i64 x2] 28)) w.heap.size #[.int .i64 x0, .int .i64 x1, .int .i64 x2] 28) := ⟨h.out.alloc _, (Below.refl _ _).alloc (Nat.le_refl _) _, Boxed.new _ _ _⟩
  cases a with
  | none =>
    obtain rfl := hn rfl
    obtain rfl : n = 0 := by omega
    clear h hn
    go_enter Try.func28, Try.ntmps28
    go_wp2_with fail
    generalize w.alloc (.cells #[.int .i64 x0, .int .i64 x1, .int .i64 x2] 28) = W at X ⊢
    have c0 : W.cell? ⟨w.heap.size, 0, none⟩ = some (.int .i64 x0) := X.out.2.2.cell 0 rfl
    have c1 : W.cell? ⟨w.heap.size, 1, none⟩ = some (.int .i64 x1) := X.out.2.2.cell 1 rfl
    have c2 : W.cell? ⟨w.heap.size, 2, none⟩ = some (.int .i64 x2) := X.out.2.2.cell 2 rfl
    go_region_law (refine it_step_full (w := W.drew) rfl (.tmp 10) (.tmp 12) rfl none L 0 HL.out ⟨x0, x1, x2⟩ rfl rfl X.out.1.drew rfl rfl Hmax.out ?_; intro v' w2 q1 q2; have R : Hid (ItRow w.heap.size w2 v' (L ++ [⟨x0, x1, x2⟩]) ∧ Below w.heap.size w w2) := ⟨q1.mono X.out.2.1.size, X.out.2.1.trans (((Below.refl _ _).drew.trans (q2.mono (Nat.le_refl _))).mono X.out.2.1.size)⟩; obtain ⟨vx, vc, ev⟩ := q1.shape; rw [List.length_append, HL.out] at ev; subst ev; clear q1 q2)
    all_goals (
      go_wp2
      go_ret
      exact ⟨⟨_, rfl, R.out.1⟩, R.out.2⟩)
  | some ad =>
    clear h hn
    have hc' : ((n : Nat) : Int) ≤ (c : Int) := by omega
    go_enter Try.func28, Try.ntmps28
    go_wp2_with fail
    generalize w.alloc (.cells #[.int .i64 x0, .int .i64 x1, .int .i64 x2] 28) = W at X ⊢
    have c0 : W.cell? ⟨w.heap.size, 0, none⟩ = some (.int .i64 x0) := X.out.2.2.cell 0 rfl
    have c1 : W.cell? ⟨w.heap.size, 1, none⟩ = some (.int .i64 x1) := X.out.2.2.cell 1 rfl
    have c2 : W.cell? ⟨w.heap.size, 2, none⟩ = some (.int .i64 x2) := X.out.2.2.cell 2 rfl
    go_region_law (refine it_step_full (w := W.drew) rfl (.tmp 10) (.tmp 12) rfl (some ad) L n HL.out ⟨x0, x1, x2⟩ rfl rfl X.out.1.drew rfl rfl Hmax.out ?_; intro v' w2 q1 q2; have R : Hid (ItRow w.heap.size w2 v' (L ++ [⟨x0, x1, x2⟩]) ∧ Below w.heap.size w w2) := ⟨q1.mono X.out.2.1.size, X.out.2.1.trans (((Below.refl _ _).drew.trans (q2.mono (Nat.le_refl _))).mono X.out.2.1.size)⟩; obtain ⟨vx, vc, ev⟩ := q1.shape; rw [List.length_append, HL.out] at ev; subst ev; clear q1 q2)
    all_goals (
      go_wp2
      go_ret
      exact ⟨⟨_, rfl, R.out.1⟩, R.out.2⟩)
end Go.Proofs.Ytleokmnhhhhcjaa

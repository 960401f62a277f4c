/-
  One item put behind a list of the call's own, wherever the item lies; where the answer lies. By the verifier.
-/
import Derived.Test.YtleokmnhhhhcjaaIzGrow
import Derived.Test.YtleokmnhhhhcjaaRwLastI
namespace Go.Proofs.Ytleokmnhhhhcjaa
open Go.RowKit

theorem it_op_where {o : Oper} {a : Act} {w : World} {K : Act → World → Prop} {Q : Exit → Act → World → Prop} (s x : Operand)
    (ho : o.op = .call { callee := .builtin .append, args := #[s, x], argTypes := #[41, 41] })
    (base : Nat) (v : Value) (L : List It) (r : It) (hs : a.eval s = v) (hrow : ItRow base w v L) {n : Nat} (hx : a.eval x = .slice (some ⟨n, 0, none⟩) 1 1) (hn : Boxed w n #[.int .i64 r.id, .int .i64 r.size, .int .i64 r.tm] 28)
    (hlen : L.length ≤ 1048576) (hb : base ≤ w.heap.size)
    (h : ∀ v' w', ItRow base w' v' (L ++ [r]) → Below base w w' → (∀ k, v.ownBlock ≠ some k → k < w.heap.size → w'.heap[k]? = w.heap[k]?) → (∀ k, v'.ownBlock = some k → v.ownBlock = some k ∨ w.heap.size ≤ k) → K (a.put o.dst v') w') :
    Oper.wp Try.prog o a w K Q := by
  obtain ⟨i0, hi, hz0, hz1, hz2⟩ := info_parts itInfo
  have hsrc : ItsAt w (some ⟨n, 0, none⟩) [r] := by
    intro k hk
    obtain rfl : k = 0 := by simpa using hk
    refine ⟨n, 0, rfl, hn.under, ?_, ?_, ?_⟩
    · exact hn.cell 0 rfl
    · exact hn.cell 1 rfl
    · exact hn.cell 2 rfl
  have hcells : itcells [r] = r.cells := by simp [itcells]
  obtain ⟨v', w', hrun, h1, h2, _, h4⟩ := run_append_where (P := Try.prog) w base 41 o.type 28 i0 _ 3 24 Try.underlying41 hi hz0 hz1 hz2 rfl (by decide) v _ _ hrow ⟨n, 0, none⟩ 1 1 r.cells rfl
    (by rw [← hcells]; exact hsrc.src) (by rw [← hcells]; exact itcells_one [r]) (by unfold maxLen; omega) (by omega) hb
  unfold Oper.wp
  simp [execOp, ho, resolve, invoke, builtin, hs, hx, hrun, Result.andThen]
  refine h v' w' ?_ ((Below.refl base w).grown h2 hb (fun j hj => (World.ownsRow.lt hrow j hj).1)) (fun j hj hl => h2.block j hl (fun e => hj e.symm)) ?_
  · unfold ItRow
    rw [List.length_append, itcells_append, hcells]
    exact h1
  · intro k hk
    rcases h4 with h4 | h4
    · left; rw [← h4]; exact hk
    · right
      rw [h4] at hk
      cases hk
      exact Nat.le_refl _
/-- As a step of a walk. -/
theorem it_list_where {ops : Array Oper} {rest : List Oper} {o : Oper} {a : Act} {w : World} {Q : Exit → Act → World → Prop} (hgd : o.guard = none) (s x : Operand)
    (ho : o.op = .call { callee := .builtin .append, args := #[s, x], argTypes := #[41, 41] })
    (base : Nat) (v : Value) (L : List It) (r : It) (hs : a.eval s = v) (hrow : ItRow base w v L) {n : Nat} (hx : a.eval x = .slice (some ⟨n, 0, none⟩) 1 1) (hn : Boxed w n #[.int .i64 r.id, .int .i64 r.size, .int .i64 r.tm] 28)
    (hlen : L.length ≤ 1048576) (hb : base ≤ w.heap.size)
    (h : ∀ v' w', ItRow base w' v' (L ++ [r]) → Below base w w' → (∀ k, v.ownBlock ≠ some k → k < w.heap.size → w'.heap[k]? = w.heap[k]?) → (∀ k, v'.ownBlock = some k → v.ownBlock = some k ∨ w.heap.size ≤ k) → wpList Try.prog ops Q rest (a.put o.dst v') w') :
    wpList Try.prog ops Q (o :: rest) a w := by
  refine wpList_plain hgd fun K hK => ?_
  exact it_op_where s x ho base v L r hs hrow hx hn hlen hb fun v' w' q1 q2 q3 q4 => hK _ _ (h v' w' q1 q2 q3 q4)
/-- A list put behind an empty one that was built: what lay lies. -/
theorem it_op_empty {o : Oper} {a : Act} {w : World} {K : Act → World → Prop} {Q : Exit → Act → World → Prop} (s x : Operand)
    (ho : o.op = .call { callee := .builtin .append, args := #[s, x], argTypes := #[41, 41] })
    (base g : Nat) (a0 : Option Addr) (m c : Nat) (M : List It) (hm : M.length = m) (hs : a.eval s = .slice (some ⟨g, 0, none⟩) 0 0) (hx : a.eval x = .slice a0 m c) (hr : ItRow base w (.slice (some ⟨g, 0, none⟩) 0 0) []) (hM : ItsAt w a0 M) (hn : a0 = none → c = 0)
    (hl : M.length ≤ 1048576) (hb : base ≤ w.heap.size)
    (h : ∀ v' w', ItRow base w' v' M → Below w.heap.size w w' → K (a.put o.dst v') w') : Oper.wp Try.prog o a w K Q := by
  subst hm
  obtain ⟨i0, hi0, hz0, hz1, hz2⟩ := info_parts itInfo
  have key : ∃ v' w', (Builtin.append_ #[41, 41] o.type #[.slice (some ⟨g, 0, none⟩) 0 0, .slice a0 M.length c]).run Try.prog w = .ok v' w' ∧ ItRow base w' v' M ∧ Below w.heap.size w w' := by
    cases M with
    | nil =>
      cases a0 with
      | none =>
        obtain rfl := hn rfl
        exact ⟨_, w, run_append_owned_none (P := Try.prog) (w := w) base 41 o.type 28 i0 3 Try.underlying41 hi0 _ _ _ hr, hr, Below.refl _ _⟩
      | some ad =>
        rcases hr.2 with ⟨e, _⟩ | ⟨g', cap', cur, e, hbg, hg, hnc, hcm, hcs, htk⟩
        · cases e
        · cases e
          have hrun := run_append_room (P := Try.prog) w 41 o.type 28 i0 Try.underlying41 hi0 g 0 0 cur hg ad 0 c [] (by simp) (by simp) (by simp) (by omega) (by simp)
          refine ⟨_, _, hrun, ?_, ?_⟩
          · simp only [Nat.zero_mul, List.take_zero, List.nil_append, List.length_nil, Nat.add_zero, List.drop_zero, Array.toArray_toList]
            rw [setRow_self w g cur _ _ hg]
            exact hr
          · simp only [Nat.zero_mul, List.take_zero, List.nil_append, List.length_nil, Nat.add_zero, List.drop_zero, Array.toArray_toList]
            rw [setRow_self w g cur _ _ hg]
            exact Below.refl _ _
    | cons y ys =>
      obtain ⟨b, off, ha, _⟩ := hM 0 (by simp)
      subst ha
      have hrun := run_append_grow (P := Try.prog) w 41 o.type 28 i0 (.agg #[.int .i64 0, .int .i64 0, .int .i64 0]) Try.underlying41 hi0 hz0 ⟨g, 0, none⟩ 0 0 [] (by simp) (by simp) ⟨b, off, none⟩ (y :: ys).length c (itcells (y :: ys)) (by rw [hz1]; exact itcells_length _) hM.src (by simp) (by omega) (growslice_fits (by simp) (by rw [hz2]; omega))
      refine ⟨_, _, hrun, ?_, (Below.refl _ w).drew.alloc (Nat.le_refl _) _⟩
      have hge := grownCap_ge w (0 + (y :: ys).length) 0 28
      have hcm := grownCap_le_maxLen w (0 + (y :: ys).length) 0 28 (by unfold maxLen; omega)
      rw [Nat.zero_add] at hge hcm ⊢
      refine ⟨itcells_length _, .inr ⟨w.heap.size, _, _, rfl, hb, heap_alloc_new w.drew _, hge, hcm, ?_, ?_⟩⟩
      · simp only [Array.size_append, List.size_toArray, size_zeroCells, itcells_length, List.length_nil, Value.cells]
        show 0 + (y :: ys).length * 3 + (grownCap w (y :: ys).length 0 28 - (y :: ys).length) * 3 = grownCap w (y :: ys).length 0 28 * 3
        omega
      · simp only [Array.toList_append, List.nil_append]
        rw [← itcells_length]
        exact List.take_left
  obtain ⟨v', w', hrun, h1, h2⟩ := key
  unfold Oper.wp
  simp [execOp, ho, resolve, invoke, builtin, hs, hx, hrun, Result.andThen]
  exact h v' w' h1 h2
end Go.Proofs.Ytleokmnhhhhcjaa

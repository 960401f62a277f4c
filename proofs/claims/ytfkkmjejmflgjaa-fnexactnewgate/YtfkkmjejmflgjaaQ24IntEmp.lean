/-
  A list of numbers put behind an empty one that was built: what lay lies. By the verifier.
-/
import Derived.Test.YtfkkmjejmflgjaaQ5FwPlain
import Derived.Test.YtfkkmjejmflgjaaQ20FwGrow
import Derived.Laws.AppendOwnNone
import Derived.Deep.RegionLaw
import Derived.Test.YtfkkmjejmflgjaaQ2SsV
import Derived.Laws.CopyOwn
namespace Go.Proofs.Ytfkkmjejmflgjaa
open Go.RowKit

theorem rowSelf (w : World) (g : Nat) (cur : Array Value) (t : TypeId) (fr : Nat × Nat) (h : w.heap[g]? = some (.cells cur t fr)) : w.setRow g cur = w := by
  unfold World.setRow
  congr 1
  apply Array.ext_getElem?
  intro i
  rw [Array.getElem?_modify]
  split
  · next e => subst e; rw [h]; rfl
  · rfl
theorem int_op_empty {o : Oper} {a : Act} {w : World} {K : Act → World → Prop} {Q : Exit → Act → World → Prop} (s x : Operand)
    (ho : o.op = .call { callee := .builtin .append, args := #[s, x], argTypes := #[25, 25] })
    (base g : Nat) (a0 : Option Addr) (m c : Nat) (M : List Int) (hm : M.length = m) (hs : a.eval s = .slice (some ⟨g, 0, none⟩) 0 0) (hx : a.eval x = .slice a0 m c) (hr : IRow base w (.slice (some ⟨g, 0, none⟩) 0 0) []) (hM : IntsAt w a0 M) (hn : a0 = none → c = 0)
    (hl : M.length ≤ 1048576) (hb : base ≤ w.heap.size)
    (h : ∀ v' w', IRow base w' v' M → Below w.heap.size w w' → K (a.put o.dst v') w') : Oper.wp Try.prog o a w K Q := by
  subst hm
  obtain ⟨i0, hi0, hz0, hz1, hz2⟩ := info_parts info2'
  have hsrc : ∀ {ad : Addr}, IntsAt w (some ad) M → ∀ j v, (M.map (Value.int .i64))[j]? = some v → w.cell? (ad.add j) = some v := by
    intro ad hM j u hj
    have hj' : j < M.length := by have := (List.getElem?_eq_some_iff.1 hj).1; simpa using this
    obtain ⟨b, off, e, _, c0⟩ := hM j hj'
    cases e
    rw [show (⟨b, off, none⟩ : Addr).add j = ⟨b, off + j, none⟩ by by_cases h0 : j = 0 <;> simp [Addr.add, h0], c0]
    rw [List.getElem?_map, List.getElem?_eq_getElem hj'] at hj
    rw [List.getElem?_eq_getElem hj']
    simpa using hj
  have key : ∃ v' w', (Builtin.append_ #[25, 25] o.type #[.slice (some ⟨g, 0, none⟩) 0 0, .slice a0 M.length c]).run Try.prog w = .ok v' w' ∧ IRow base w' v' M ∧ Below w.heap.size w w' := by
    cases M with
    | nil =>
      cases a0 with
      | none =>
        obtain rfl := hn rfl
        exact ⟨_, w, run_append_owned_none (P := Try.prog) (w := w) base 25 o.type 2 i0 1 Try.underlying25 hi0 _ _ _ hr, hr, Below.refl _ _⟩
      | some ad =>
        rcases hr.2 with ⟨e, _⟩ | ⟨g', cap', cur, e, hbg, hg, hnc, hcm, hcs, htk⟩
        · cases e
        · cases e
          have hrun := run_append_room (P := Try.prog) w 25 o.type 2 i0 Try.underlying25 hi0 g 0 0 cur hg ad 0 c [] (by simp) (by simp) (by simp) (by omega) (by simp)
          refine ⟨_, _, hrun, ?_, ?_⟩
          · simp only [Nat.zero_mul, List.take_zero, List.nil_append, List.length_nil, Nat.add_zero, List.drop_zero, Array.toArray_toList]
            rw [rowSelf w g cur _ _ hg]
            exact hr
          · simp only [Nat.zero_mul, List.take_zero, List.nil_append, List.length_nil, Nat.add_zero, List.drop_zero, Array.toArray_toList]
            rw [rowSelf w g cur _ _ hg]
            exact Below.refl _ _
    | cons y ys =>
      obtain ⟨b, off, ha, _⟩ := hM 0 (by simp)
      subst ha
      have hrun := run_append_grow (P := Try.prog) w 25 o.type 2 i0 (.int .i64 0) Try.underlying25 hi0 hz0 ⟨g, 0, none⟩ 0 0 [] (by simp) (by simp) ⟨b, off, none⟩ (y :: ys).length c ((y :: ys).map (Value.int .i64)) (by rw [hz1]; simp) (hsrc hM) (by simp) (by omega) (growslice_fits (by simp) (by rw [hz2]; omega))
      refine ⟨_, _, hrun, ?_, (Below.refl _ w).drew.alloc (Nat.le_refl _) _⟩
      have hge := grownCap_ge w (0 + (y :: ys).length) 0 2
      have hcm := grownCap_le_maxLen w (0 + (y :: ys).length) 0 2 (by unfold maxLen; omega)
      rw [Nat.zero_add] at hge hcm ⊢
      refine ⟨by simp, .inr ⟨w.heap.size, _, _, rfl, hb, heap_alloc_new w.drew _, hge, hcm, ?_, ?_⟩⟩
      · simp only [Array.size_append, List.size_toArray, size_zeroCells, List.length_map, List.length_nil, Value.cells]
        show 0 + (y :: ys).length + (grownCap w (y :: ys).length 0 2 - (y :: ys).length) * 1 = grownCap w (y :: ys).length 0 2 * 1
        omega
      · simp only [Array.toList_append, List.nil_append]
        rw [Nat.mul_one]
        have e : (y :: ys).length = ((y :: ys).map (Value.int .i64)).length := by simp
        rw [e]
        exact List.take_left
  obtain ⟨v', w', hrun, h1, h2⟩ := key
  unfold Oper.wp
  simp [execOp, ho, resolve, invoke, builtin, hs, hx, hrun, Result.andThen]
  exact h v' w' h1 h2
end Go.Proofs.Ytfkkmjejmflgjaa

import Derived.Test.YtfkkmjejmflgjaaQ1NdPlain
import Derived.Test.YtfkkmjejmflgjaaQ11Quiet
import Derived.Laws.AppendOwnNone
import Derived.Lib.SliceRun
import Derived.WalkKit
import Derived.WalkSpells
import Derived.WalkLawsBesides
import Derived.Handy
import Derived.Test.YtfkkmjejmflgjaaQ20FwGrow
import Derived.Test.YtfkkmjejmflgjaaQ2SsV
import Derived.Laws.CopyOwn
/-
  Records (Node) put behind records of the call's own. By the verifier, by program.
-/
namespace Go.Proofs.Ytfkkmjejmflgjaa
open Go.RowKit

/-- The empty list that was built. -/
theorem nd_built (w : World) (base : Nat) (hb : base ≤ w.heap.size) : NdRow base (w.alloc (.cells #[] 60)) (.slice (some ⟨w.heap.size, 0, none⟩) 0 0) [] :=
  World.ownsRow_lit (size := 5) w #[] 0 hb (by unfold maxLen; omega) rfl
theorem NdRow.none {base : Nat} {w : World} {a : Option Addr} {n cap : Nat} {l : List Nd} (h : NdRow base w (.slice a n cap) l) : a = .none → cap = 0 := by
  rintro rfl
  rcases h.2 with ⟨e, _⟩ | ⟨g, cap', cur, e, _⟩
  · cases e; rfl
  · cases e
theorem NdRow.some {base : Nat} {w : World} {v : Value} {l : List Nd} (h : NdRow base w v l) (hv : v ≠ .slice .none 0 0) : ∃ g cap, v = .slice (.some ⟨g, 0, .none⟩) l.length cap := by
  rcases h.2 with ⟨e, _⟩ | ⟨g, cap, cur, e, _⟩
  · exact absurd e hv
  · exact ⟨g, cap, e⟩
end Go.Proofs.Ytfkkmjejmflgjaa

/-
  One record (Node) put behind a list of the call's own, wherever it lies; a list put behind an empty one. By the verifier, by program.
-/
namespace Go.Proofs.Ytfkkmjejmflgjaa
open Go.RowKit

theorem ndRowSelf (w : World) (g : Nat) (cur : Array Value) (t : TypeId) (fr : Nat × Nat) (h : w.heap[g]? = some (.cells cur t fr)) : w.setRow g cur = w := by
  unfold World.setRow
  congr 1
  apply Array.ext_getElem?
  intro i
  rw [Array.getElem?_modify]
  split
  · next e => subst e; rw [h]; rfl
  · rfl
theorem NdsAt.src {w : World} {b off : Nat} {L : List Nd} (h : NdsAt w (some ⟨b, off, none⟩) L) : ∀ j v, (ndcells L)[j]? = some v → w.cell? ((⟨b, off, none⟩ : Addr).add j) = some v := by
  intro j u hj
  have hj' : j < L.length * 5 := by
    have := (List.getElem?_eq_some_iff.1 hj).1
    rwa [ndcells_length] at this
  obtain ⟨k, i, rfl, hi⟩ : ∃ k i, j = k * 5 + i ∧ i < 5 := ⟨j / 5, j % 5, by omega, Nat.mod_lt _ (by omega)⟩
  have hk : k < L.length := by omega
  obtain ⟨b', off', e, _, c0, c1, c2, c3, c4⟩ := h k hk
  cases e
  obtain ⟨e0, e1, e2, e3, e4⟩ := ndcells_get L k hk
  rw [show (⟨b, off, none⟩ : Addr).add (k * 5 + i) = ⟨b, off + k * 5 + i, none⟩ by by_cases h0 : k * 5 + i = 0 <;> simp [Addr.add, h0, Nat.add_assoc]; omega]
  match i, hi with
  | 0, _ => rw [Nat.add_zero] at hj; rw [e0] at hj; rw [Nat.add_zero, c0]; exact hj
  | 1, _ => rw [e1] at hj; rw [c1]; exact hj
  | 2, _ => rw [e2] at hj; rw [c2]; exact hj
  | 3, _ => rw [e3] at hj; rw [c3]; exact hj
  | 4, _ => rw [e4] at hj; rw [c4]; exact hj
/-- A list put behind an empty one that was built: what lay lies. -/
theorem nd_op_empty {o : Oper} {a : Act} {w : World} {K : Act → World → Prop} {Q : Exit → Act → World → Prop} (s x : Operand)
    (ho : o.op = .call { callee := .builtin .append, args := #[s, x], argTypes := #[30, 30] })
    (base g : Nat) (a0 : Option Addr) (m c : Nat) (M : List Nd) (hm : M.length = m) (hs : a.eval s = .slice (some ⟨g, 0, none⟩) 0 0) (hx : a.eval x = .slice a0 m c) (hr : NdRow base w (.slice (some ⟨g, 0, none⟩) 0 0) []) (hM : NdsAt w a0 M) (hn : a0 = none → c = 0)
    (hl : M.length ≤ 1048576) (hb : base ≤ w.heap.size)
    (h : ∀ v' w', NdRow base w' v' M → Below w.heap.size w w' → K (a.put o.dst v') w') : Oper.wp Try.prog o a w K Q := by
  subst hm
  obtain ⟨i0, hi0, hz0, hz1, hz2⟩ := info_parts ndInfo
  have key : ∃ v' w', (Builtin.append_ #[30, 30] o.type #[.slice (some ⟨g, 0, none⟩) 0 0, .slice a0 M.length c]).run Try.prog w = .ok v' w' ∧ NdRow base w' v' M ∧ Below w.heap.size w w' := by
    cases M with
    | nil =>
      cases a0 with
      | none =>
        obtain rfl := hn rfl
        exact ⟨_, w, run_append_owned_none (P := Try.prog) (w := w) base 30 o.type 60 i0 5 Try.underlying30 hi0 _ _ _ hr, hr, Below.refl _ _⟩
      | some ad =>
        rcases hr.2 with ⟨e, _⟩ | ⟨g', cap', cur, e, hbg, hg, hnc, hcm, hcs, htk⟩
        · cases e
        · cases e
          have hrun := run_append_room (P := Try.prog) w 30 o.type 60 i0 Try.underlying30 hi0 g 0 0 cur hg ad 0 c [] (by simp) (by simp) (by simp) (by omega) (by simp)
          refine ⟨_, _, hrun, ?_, ?_⟩
          · simp only [Nat.zero_mul, List.take_zero, List.nil_append, List.length_nil, Nat.add_zero, List.drop_zero, Array.toArray_toList]
            rw [ndRowSelf w g cur _ _ hg]
            exact hr
          · simp only [Nat.zero_mul, List.take_zero, List.nil_append, List.length_nil, Nat.add_zero, List.drop_zero, Array.toArray_toList]
            rw [ndRowSelf w g cur _ _ hg]
            exact Below.refl _ _
    | cons y ys =>
      obtain ⟨b, off, ha, _⟩ := hM 0 (by simp)
      subst ha
      have hrun := run_append_grow (P := Try.prog) w 30 o.type 60 i0 (.agg #[.int .i64 0, .int .i64 0, .int .i64 0, .int .i64 0, .int .i64 0]) Try.underlying30 hi0 hz0 ⟨g, 0, none⟩ 0 0 [] (by simp) (by simp) ⟨b, off, none⟩ (y :: ys).length c (ndcells (y :: ys)) (by rw [hz1]; exact ndcells_length _) hM.src (by simp) (by omega) (growslice_fits (by simp) (by rw [hz2]; omega))
      refine ⟨_, _, hrun, ?_, (Below.refl _ w).drew.alloc (Nat.le_refl _) _⟩
      have hge := grownCap_ge w (0 + (y :: ys).length) 0 60
      have hcm := grownCap_le_maxLen w (0 + (y :: ys).length) 0 60 (by unfold maxLen; omega)
      rw [Nat.zero_add] at hge hcm ⊢
      refine ⟨ndcells_length _, .inr ⟨w.heap.size, _, _, rfl, hb, heap_alloc_new w.drew _, hge, hcm, ?_, ?_⟩⟩
      · simp only [Array.size_append, List.size_toArray, size_zeroCells, ndcells_length, List.length_nil, Value.cells]
        show 0 + (y :: ys).length * 5 + (grownCap w (y :: ys).length 0 60 - (y :: ys).length) * 5 = grownCap w (y :: ys).length 0 60 * 5
        omega
      · simp only [Array.toList_append, List.nil_append]
        rw [← ndcells_length]
        exact List.take_left
  obtain ⟨v', w', hrun, h1, h2⟩ := key
  unfold Oper.wp
  simp [execOp, ho, resolve, invoke, builtin, hs, hx, hrun, Result.andThen]
  exact h v' w' h1 h2
end Go.Proofs.Ytfkkmjejmflgjaa

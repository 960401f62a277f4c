import Derived.Test.YtfkkmjejmflgjaaQ0SrPlain
import Derived.Test.YtfkkmjejmflgjaaQ11Quiet
import Derived.Laws.AppendOwnNone
import Derived.Lib.SliceRun
import Derived.WalkKit
import Derived.WalkSpells
import Derived.WalkLawsBesides
import Derived.Handy
import Derived.Test.YtfkkmjejmflgjaaQ20FwGrow
import Derived.Test.YtfkkmjejmflgjaaQ2SsV
import Derived.Laws.CopyOwn
/-
  Records (Steer) put behind records of the call's own. By the verifier, by program.
-/
namespace Go.Proofs.Ytfkkmjejmflgjaa
open Go.RowKit

theorem SrRow.none {base : Nat} {w : World} {a : Option Addr} {n cap : Nat} {l : List Sr} (h : SrRow base w (.slice a n cap) l) : a = .none → cap = 0 := by
  rintro rfl
  rcases h.2 with ⟨e, _⟩ | ⟨g, cap', cur, e, _⟩
  · cases e; rfl
  · cases e
theorem SrRow.some {base : Nat} {w : World} {v : Value} {l : List Sr} (h : SrRow base w v l) (hv : v ≠ .slice .none 0 0) : ∃ g cap, v = .slice (.some ⟨g, 0, .none⟩) l.length cap := by
  rcases h.2 with ⟨e, _⟩ | ⟨g, cap, cur, e, _⟩
  · exact absurd e hv
  · exact ⟨g, cap, e⟩
end Go.Proofs.Ytfkkmjejmflgjaa

/-
  One record (Steer) put behind a list of the call's own, wherever it lies; a list put behind an empty one. By the verifier, by program.
-/
namespace Go.Proofs.Ytfkkmjejmflgjaa
open Go.RowKit

theorem SrsAt.src {w : World} {b off : Nat} {L : List Sr} (h : SrsAt w (some ⟨b, off, none⟩) L) : ∀ j v, (srcells L)[j]? = some v → w.cell? ((⟨b, off, none⟩ : Addr).add j) = some v := by
  intro j u hj
  have hj' : j < L.length * 3 := by
    have := (List.getElem?_eq_some_iff.1 hj).1
    rwa [srcells_length] at this
  obtain ⟨k, i, rfl, hi⟩ : ∃ k i, j = k * 3 + i ∧ i < 3 := ⟨j / 3, j % 3, by omega, Nat.mod_lt _ (by omega)⟩
  have hk : k < L.length := by omega
  obtain ⟨b', off', e, _, c0, c1, c2⟩ := h k hk
  cases e
  obtain ⟨e0, e1, e2⟩ := srcells_get L k hk
  rw [show (⟨b, off, none⟩ : Addr).add (k * 3 + i) = ⟨b, off + k * 3 + i, none⟩ by by_cases h0 : k * 3 + i = 0 <;> simp [Addr.add, h0, Nat.add_assoc]; omega]
  match i, hi with
  | 0, _ => rw [Nat.add_zero] at hj; rw [e0] at hj; rw [Nat.add_zero, c0]; exact hj
  | 1, _ => rw [e1] at hj; rw [c1]; exact hj
  | 2, _ => rw [e2] at hj; rw [c2]; exact hj
theorem sr_op_where {o : Oper} {a : Act} {w : World} {K : Act → World → Prop} {Q : Exit → Act → World → Prop} (s x : Operand)
    (ho : o.op = .call { callee := .builtin .append, args := #[s, x], argTypes := #[34, 34] })
    (base : Nat) (v : Value) (L : List Sr) (r : Sr) (hs : a.eval s = v) (hrow : SrRow base w v L) {n : Nat} (hx : a.eval x = .slice (some ⟨n, 0, none⟩) 1 1) (hn : Boxed w n #[.int .i64 r.target, .int .i64 r.old, .int .i64 r.prob] 53)
    (hlen : L.length ≤ 1048576) (hb : base ≤ w.heap.size)
    (h : ∀ v' w', SrRow base w' v' (L ++ [r]) → Below base w w' → (∀ k, v.ownBlock ≠ some k → k < w.heap.size → w'.heap[k]? = w.heap[k]?) → (∀ k, v'.ownBlock = some k → v.ownBlock = some k ∨ w.heap.size ≤ k) → K (a.put o.dst v') w') :
    Oper.wp Try.prog o a w K Q := by
  obtain ⟨i0, hi, hz0, hz1, hz2⟩ := info_parts srInfo
  have hsrc : SrsAt w (some ⟨n, 0, none⟩) [r] := by
    intro k hk
    obtain rfl : k = 0 := by simpa using hk
    refine ⟨n, 0, rfl, hn.under, hn.cell 0 rfl, hn.cell 1 rfl, hn.cell 2 rfl⟩
  have hcells : srcells [r] = r.cells := by simp [srcells]
  obtain ⟨v', w', hrun, h1, h2, _, h4⟩ := run_append_where (P := Try.prog) w base 34 o.type 53 i0 _ 3 24 Try.underlying34 hi hz0 hz1 hz2 rfl (by decide) v _ _ hrow ⟨n, 0, none⟩ 1 1 r.cells rfl
    (by rw [← hcells]; exact hsrc.src) (by rw [← hcells]; exact srcells_one [r]) (by unfold maxLen; omega) (by omega) hb
  unfold Oper.wp
  simp [execOp, ho, resolve, invoke, builtin, hs, hx, hrun, Result.andThen]
  refine h v' w' ?_ ((Below.refl base w).grown h2 hb (fun j hj => (World.ownsRow.lt hrow j hj).1)) (fun j hj hl => h2.block j hl (fun e => hj e.symm)) ?_
  · unfold SrRow
    rw [List.length_append, srcells_append, hcells]
    exact h1
  · intro k hk
    rcases h4 with h4 | h4
    · left; rw [← h4]; exact hk
    · right
      rw [h4] at hk
      cases hk
      exact Nat.le_refl _
/-- As a step of a walk. -/
theorem sr_list_where {ops : Array Oper} {rest : List Oper} {o : Oper} {a : Act} {w : World} {Q : Exit → Act → World → Prop} (hgd : o.guard = none) (s x : Operand)
    (ho : o.op = .call { callee := .builtin .append, args := #[s, x], argTypes := #[34, 34] })
    (base : Nat) (v : Value) (L : List Sr) (r : Sr) (hs : a.eval s = v) (hrow : SrRow base w v L) {n : Nat} (hx : a.eval x = .slice (some ⟨n, 0, none⟩) 1 1) (hn : Boxed w n #[.int .i64 r.target, .int .i64 r.old, .int .i64 r.prob] 53)
    (hlen : L.length ≤ 1048576) (hb : base ≤ w.heap.size)
    (h : ∀ v' w', SrRow base w' v' (L ++ [r]) → Below base w w' → (∀ k, v.ownBlock ≠ some k → k < w.heap.size → w'.heap[k]? = w.heap[k]?) → (∀ k, v'.ownBlock = some k → v.ownBlock = some k ∨ w.heap.size ≤ k) → wpList Try.prog ops Q rest (a.put o.dst v') w') :
    wpList Try.prog ops Q (o :: rest) a w := by
  refine wpList_plain hgd fun K hK => ?_
  exact sr_op_where s x ho base v L r hs hrow hx hn hlen hb fun v' w' q1 q2 q3 q4 => hK _ _ (h v' w' q1 q2 q3 q4)
end Go.Proofs.Ytfkkmjejmflgjaa

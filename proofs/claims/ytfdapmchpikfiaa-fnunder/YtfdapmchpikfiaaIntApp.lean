/-
  Numbers put behind numbers of the call's own, as a step of a region that draws. By the verifier.
-/
import Derived.Test.YtfdapmchpikfiaaIntRow
import Derived.Test.YtfdapmchpikfiaaAppWhere
import Derived.Laws.AppendOwnNone
import Derived.Deep.RegionLaw
namespace Go.Proofs.Ytfdapmchpikfiaa
open Go.RowKit

theorem intsEmpty {w : World} {l : List Int} (h : IntsAt w none l) : l = [] := by
  cases l with
  | nil => rfl
  | cons z zs => obtain ⟨b, off, e, _⟩ := h 0 (by simp); cases e
theorem int_app_run (w : World) (ty : TypeId) (base : Nat) (v : Value) (L : List Int) (a0 : Option Addr) (c : Nat) (M : List Int) (h : IRow base w v L) (hM : IntsAt w a0 M) (hn : a0 = none → c = 0) (hl : L.length + M.length ≤ 2097152) (hb : base ≤ w.heap.size) :
    ∃ v' w', (Builtin.append_ #[32, 32] ty #[v, .slice a0 M.length c]).run Try.prog w = .ok v' w' ∧ IRow base w' v' (L ++ M) ∧ Below base w w' ∧ w.grownBy w' v.ownBlock ∧ (v' = .slice none 0 0 → v = .slice none 0 0) ∧ (v'.ownBlock = v.ownBlock ∨ v'.ownBlock = some w.heap.size) := by
  obtain ⟨i0, hi0, hz0, hz1, hz2⟩ := info_parts info2'
  cases a0 with
  | none =>
    obtain rfl := intsEmpty hM
    obtain rfl := hn rfl
    exact ⟨v, w, run_append_owned_none (P := Try.prog) (w := w) base 32 ty 2 i0 1 Try.underlying32 hi0 v _ _ h, by simpa using h, Below.refl _ _, ⟨rfl, rfl, rfl, Nat.le_refl _, fun _ _ _ => rfl⟩, id, .inl rfl⟩
  | some ad =>
    obtain ⟨v', w', h1, h2, h3, h4, h5⟩ := run_append_where (P := Try.prog) w base 32 ty 2 i0 (.int .i64 0) 1 8 Try.underlying32 hi0 hz0 hz1 hz2 rfl (by decide) v _ _ h ad M.length c (M.map (Value.int .i64)) (by simp)
      (by
        intro j u hj
        have hj' : j < M.length := by have := (List.getElem?_eq_some_iff.1 hj).1; simpa using this
        obtain ⟨b, off, e, _, c0⟩ := hM j hj'
        cases e
        rw [show (⟨b, off, none⟩ : Addr).add j = ⟨b, off + j, none⟩ by by_cases h0 : j = 0 <;> simp [Addr.add, h0], c0]
        rw [List.getElem?_map, List.getElem?_eq_getElem hj'] at hj
        rw [List.getElem?_eq_getElem hj']
        simpa using hj)
      (by intro u hu; simp at hu; obtain ⟨y, _, rfl⟩ := hu; rfl) (by unfold maxLen; omega) (by omega) hb
    refine ⟨v', w', h1, ?_, (Below.refl base w).grown h3 hb (fun k hk => (h.lt k hk).1), h3, fun e => (h4.1 e).1, h5⟩
    unfold IRow
    rw [List.length_append, List.map_append]
    exact h2
theorem int_op_app {o : Oper} {a : Act} {K : Act → World → Prop} {Q : Exit → Act → World → Prop} {w : World} (s x : Operand)
    (ho : o.op = .call { callee := .builtin .append, args := #[s, x], argTypes := #[32, 32] })
    (base : Nat) (v : Value) (L : List Int) (a0 : Option Addr) (m c : Nat) (M : List Int) (hm : M.length = m) (hs : a.eval s = v) (hx : a.eval x = .slice a0 m c) (hr : IRow base w v L) (hM : IntsAt w a0 M) (hn : a0 = none → c = 0)
    (hl : L.length + M.length ≤ 2097152) (hb : base ≤ w.heap.size)
    (h : ∀ v' w', IRow base w' v' (L ++ M) → Below base w w' → w.grownBy w' v.ownBlock → (v'.ownBlock = v.ownBlock ∨ v'.ownBlock = some w.heap.size) → K (a.put o.dst v') w') : o.wp Try.prog a w K Q := by
  subst hm
  obtain ⟨v', w', hrun, h1, h2, h3, h4, h5⟩ := int_app_run w o.type base v L a0 c M hr hM hn hl hb
  unfold Oper.wp
  simp [execOp, ho, resolve, invoke, builtin, hs, hx, hrun, Result.andThen]
  exact h v' w' h1 h2 h3 h5
theorem int_step_app {ops : Array Oper} {o : Oper} {a : Act} {w : World} {K : Act → World → Prop} {Q : Exit → Act → World → Prop} {E : Prop} (hgd : o.guard = none) (s x : Operand)
    (ho : o.op = .call { callee := .builtin .append, args := #[s, x], argTypes := #[32, 32] })
    (base : Nat) (v : Value) (L : List Int) (a0 : Option Addr) (m c : Nat) (M : List Int) (hm : M.length = m) (hs : a.eval s = v) (hx : a.eval x = .slice a0 m c) (hr : IRow base w v L) (hM : IntsAt w a0 M) (hn : a0 = none → c = 0)
    (hl : L.length + M.length ≤ 2097152) (hb : base ≤ w.heap.size)
    (h : ∀ v' w', IRow base w' v' (L ++ M) → Below base w w' → w.grownBy w' v.ownBlock → (v'.ownBlock = v.ownBlock ∨ v'.ownBlock = some w.heap.size) → K (a.put o.dst v') w') :
    if Region.wanted o (yielded ops a.tmps) = true then Oper.wp Try.prog o a w K Q else E := by
  rw [if_pos (by simp [Region.wanted, hgd])]
  exact int_op_app s x ho base v L a0 m c M hm hs hx hr hM hn hl hb h
end Go.Proofs.Ytfdapmchpikfiaa

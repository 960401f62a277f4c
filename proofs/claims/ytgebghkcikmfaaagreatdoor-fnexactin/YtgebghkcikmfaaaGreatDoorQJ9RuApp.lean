/-
  Records (Rule) put behind records of the call's own; the library's Clone. By the verifier, by program.
-/
import Derived.Test.YtgebghkcikmfaaaGreatDoorQJ2RuMatch
import Derived.Test.YtgebghkcikmfaaaGreatDoorQJ0NumUp
import Derived.Laws.AppendOwnNone
import Derived.Lib.SliceRun
import Derived.WalkKit
import Derived.WalkSpells
import Derived.WalkLawsBesides
import Derived.Handy
namespace Go.Proofs.YtgebghkcikmfaaaGreatDoor
open Go.RowKit

theorem ru_app_run (w : World) (ty : TypeId) (base : Nat) (v : Value) (L : List Ru) (a0 : Option Addr) (c : Nat) (M : List Ru) (h : RuRow base w v L) (hM : RusAt w a0 M) (hn : a0 = none → c = 0) (hl : L.length + M.length ≤ 2097152) (hb : base ≤ w.heap.size) :
    ∃ v' w', (Builtin.append_ #[40, 40] ty #[v, .slice a0 M.length c]).run Tryz.prog w = .ok v' w' ∧ RuRow base w' v' (L ++ M) ∧ Below base w w' ∧ w.grownBy w' v.ownBlock ∧ (v' = .slice none 0 0 → v = .slice none 0 0) := by
  obtain ⟨i0, hi0, hz0, hz1, hz2⟩ := info_parts ruInfo
  cases a0 with
  | none =>
    obtain rfl := hM.empty
    obtain rfl := hn rfl
    refine ⟨v, w, run_append_owned_none (P := Tryz.prog) (w := w) base 40 ty 136 i0 10 Tryz.underlying40 hi0 v _ _ h, by simpa using h, Below.refl _ _, ⟨rfl, rfl, rfl, Nat.le_refl _, fun _ _ _ => rfl⟩, id⟩
  | some ad =>
    obtain ⟨v', w', h1, h2, h3, h4⟩ := run_append_own (P := Tryz.prog) w base 40 ty 136 i0 (.agg #[.int .i64 0, .int .i64 0, .int .i64 0, .int .i64 0, .int .i64 0, .int .i64 0, .int .i64 0, .int .i64 0, .int .i64 0, .int .i64 0]) 10 80 Tryz.underlying40 hi0 hz0 hz1 hz2 rfl (by decide) v _ _ h ad M.length c (rucells M) (rucells_length M)
      (by
        intro j u hj
        have hj' : j < M.length * 10 := by
          have := (List.getElem?_eq_some_iff.1 hj).1
          rwa [rucells_length] at this
        obtain ⟨k, i, rfl, hi⟩ : ∃ k i, j = k * 10 + i ∧ i < 10 := ⟨j / 10, j % 10, by omega, Nat.mod_lt _ (by omega)⟩
        have hk : k < M.length := by omega
        obtain ⟨b, off, e, _, c0, c1, c2, c3, c4, c5, c6, c7, c8, c9⟩ := hM k hk
        cases e
        obtain ⟨e0, e1, e2, e3, e4, e5, e6, e7, e8, e9⟩ := rucells_get M k hk
        rw [show (⟨b, off, none⟩ : Addr).add (k * 10 + i) = ⟨b, off + k * 10 + i, none⟩ by by_cases h0 : k * 10 + i = 0 <;> simp [Addr.add, h0, Nat.add_assoc]; omega]
        match i, hi with
        | 0, _ => rw [Nat.add_zero] at hj; rw [e0] at hj; rw [Nat.add_zero, c0]; exact hj
        | 1, _ => rw [e1] at hj; rw [c1]; exact hj
        | 2, _ => rw [e2] at hj; rw [c2]; exact hj
        | 3, _ => rw [e3] at hj; rw [c3]; exact hj
        | 4, _ => rw [e4] at hj; rw [c4]; exact hj
        | 5, _ => rw [e5] at hj; rw [c5]; exact hj
        | 6, _ => rw [e6] at hj; rw [c6]; exact hj
        | 7, _ => rw [e7] at hj; rw [c7]; exact hj
        | 8, _ => rw [e8] at hj; rw [c8]; exact hj
        | 9, _ => rw [e9] at hj; rw [c9]; exact hj)
      (rucells_one M) (by unfold maxLen; omega) (by omega) hb
    refine ⟨v', w', h1, ?_, (Below.refl base w).grown h3 hb (fun k hk => (h.lt k hk).1), h3, fun e => (h4.1 e).1⟩
    unfold RuRow
    rw [List.length_append, rucells_append]
    exact h2
/-- As a step of a walk. -/
theorem ru_app {ops : Array Oper} {rest : List Oper} {o : Oper} {a : Act} {Q : Exit → Act → World → Prop} {w : World} (hgd : o.guard = none) (s x : Operand)
    (ho : o.op = .call { callee := .builtin .append, args := #[s, x], argTypes := #[40, 40] })
    (base : Nat) (v : Value) (L : List Ru) (a0 : Option Addr) (m c : Nat) (M : List Ru) (hm : M.length = m) (hs : a.eval s = v) (hx : a.eval x = .slice a0 m c) (hr : RuRow base w v L) (hM : RusAt w a0 M) (hn : a0 = none → c = 0)
    (hl : L.length + M.length ≤ 2097152) (hb : base ≤ w.heap.size)
    (h : ∀ v' w', RuRow base w' v' (L ++ M) → Below base w w' → w.grownBy w' v.ownBlock → (v' = .slice none 0 0 → v = .slice none 0 0) → wpList Tryz.prog ops Q rest (a.put o.dst v') w') :
    wpList Tryz.prog ops Q (o :: rest) a w := by
  subst hm
  obtain ⟨v', w', hrun, h1, h2, h3, h4⟩ := ru_app_run w o.type base v L a0 c M hr hM hn hl hb
  refine wpList_plain hgd fun _ hK => ?_
  unfold Oper.wp
  simp [execOp, ho, resolve, invoke, builtin, hs, hx, hrun, Result.andThen]
  exact hK _ _ (h v' w' h1 h2 h3 h4)
/-- The empty list that was built. -/
theorem ru_built (w : World) (base : Nat) (hb : base ≤ w.heap.size) : RuRow base (w.alloc (.cells #[] 136)) (.slice (some ⟨w.heap.size, 0, none⟩) 0 0) [] :=
  World.ownsRow_lit (size := 10) w #[] 0 hb (by unfold maxLen; omega) rfl
end Go.Proofs.YtgebghkcikmfaaaGreatDoor

/-
  A list of numbers copied behind an empty one; slices.Clone on numbers. By the verifier.
-/
import Derived.Test.YtojmghnbekneiaaIntRow
import Derived.WalkKit
import Derived.WalkSpells
import Derived.WalkLawsBesides
import Derived.Laws.Cover3
namespace Go.Proofs.Ytojmghnbekneiaa
open Go.RowKit

theorem IntsAt.none {w : World} {zs : List Int} (h : IntsAt w none zs) : zs = [] := by
  cases zs with
  | nil => rfl
  | cons z zs => obtain ⟨b, off, e, _⟩ := h 0 (by simp); cases e
theorem clone_run (w : World) (ty : TypeId) (base : Nat) (a0 : Option Addr) (c : Nat) (zs : List Int) (hi : IntsAt w a0 zs) (hl : zs.length ≤ 1048576) (hb : base ≤ w.heap.size) :
    ∃ v' w', (Builtin.append_ #[33, 33] ty #[.slice (some ⟨w.heap.size, 0, none⟩) 0 0, .slice a0 zs.length c]).run Try.prog (w.alloc (.cells #[] 2)) = .ok v' w' ∧ IRow base w' v' zs ∧ Below base w w' := by
  obtain ⟨i0, hi0, hz0, hz1, hz2⟩ := info_parts info2'
  have hown : IRow base (w.alloc (.cells #[] 2)) (.slice (some ⟨w.heap.size, 0, none⟩) 0 0) [] := World.ownsRow_lit (size := 1) w #[] 0 hb (by unfold maxLen; omega) rfl
  cases a0 with
  | none =>
    obtain rfl := hi.none
    refine ⟨.slice (some ⟨w.heap.size, 0, none⟩) 0 0, w.alloc (.cells #[] 2), ?_, hown, (Below.refl base w).alloc hb _⟩
    simp [Builtin.append_, run_underlying Try.underlying33, sizeOf, typeInfo, hi0, Builtin.lenOf, Builtin.firstCells, storeCells]
  | some ad =>
    obtain ⟨v', w', h1, h2, h3, _⟩ := run_append_own (P := Try.prog) (w.alloc (.cells #[] 2)) base 33 ty 2 i0 (.int .i64 0) 1 8 Try.underlying33 hi0 hz0 hz1 hz2 rfl (by decide) _ 0 _ hown ad zs.length c (zs.map (Value.int .i64)) (by simp)
      (by
        intro j u hj
        have hj' : j < zs.length := by
          apply Classical.byContradiction
          intro hn
          rw [List.getElem?_eq_none (by simp; omega)] at hj
          cases hj
        obtain ⟨b, off, e, hlt, hc⟩ := hi j hj'
        cases e
        rw [List.getElem?_map, List.getElem?_eq_getElem hj'] at hj
        rw [List.getElem?_eq_getElem hj'] at hc
        simp only [Option.map_some, Option.some.injEq] at hj
        subst hj
        rw [show (⟨b, off, none⟩ : Addr).add j = ⟨b, off + j, none⟩ by by_cases h0 : j = 0 <;> simp [Addr.add, h0]]
        exact ((World.cell?_alloc_old w _ ⟨b, off + j, none⟩ (Nat.ne_of_lt hlt))).trans hc)
      (by intro u hu; simp only [List.mem_map] at hu; obtain ⟨y, _, rfl⟩ := hu; rfl) (by unfold maxLen; omega) (by omega) (by simp; omega)
    refine ⟨v', w', h1, ?_, ((Below.refl base w).alloc hb _).grown h3 (by simp; omega) (fun k hk => IRow.block hown k hk)⟩
    unfold IRow
    simpa using h2
/-- The same as a step of a walk. -/
theorem row_clone {ops : Array Oper} {rest : List Oper} {o : Oper} {a : Act} {Q : Exit → Act → World → Prop} {w : World} (hgd : o.guard = none) (s x : Operand)
    (ho : o.op = .call { callee := .builtin .append, args := #[s, x], argTypes := #[33, 33] })
    (base : Nat) (a0 : Option Addr) (c : Nat) (zs : List Int) (hs : a.eval s = .slice (some ⟨w.heap.size, 0, none⟩) 0 0) (hx : a.eval x = .slice a0 zs.length c) (hi : IntsAt w a0 zs)
    (hl : zs.length ≤ 1048576) (hb : base ≤ w.heap.size)
    (h : ∀ v' w', IRow base w' v' zs → Below base w w' → wpList Try.prog ops Q rest (a.put o.dst v') w') :
    wpList Try.prog ops Q (o :: rest) a (w.alloc (.cells #[] 2)) := by
  obtain ⟨v', w', hrun, h1, h2⟩ := clone_run w o.type base a0 c zs hi hl hb
  refine wpList_plain hgd fun _ hK => ?_
  unfold Oper.wp
  simp [execOp, ho, resolve, invoke, builtin, hs, hx, hrun, Result.andThen]
  exact hK _ _ (h v' w' h1 h2)

theorem eql_nil (w : World) (a0 : Option Addr) (l c : Nat) : (binOp .eql 33 (.slice a0 l c) (.slice none 0 0)).run Try.prog w = .ok (.bool a0.isNone) w := by
  simp only [binOp]
  simp [run_equal_slice_nil w 33 2 a0 l c Try.underlying33]
theorem implClone (a0 : Option Addr) (c : Nat) (zs : List Int) (w : World) (hi : Hid (IntsAt w a0 zs)) (hl : zs.length ≤ 1048576) :
    Calls Try.prog 38 #[.slice a0 zs.length c] w fun e w' => ∃ v', e = .returned v' ∧ IRow w.heap.size w' v' zs ∧ Below w.heap.size w w' := by
  cases a0 with
  | none =>
    obtain rfl := hi.out.none
    have he : (binOp .eql 33 (.slice none 0 c) (.slice none 0 0)).run Try.prog w = .ok (.bool true) w := eql_nil w none 0 c
    go_enter Try.func38, Try.ntmps38
    go_wp2
    go_ret
    exact ⟨_, rfl, World.ownsRow_nil _ _ _ _, Below.refl _ _⟩
  | some ad =>
    have he : (binOp .eql 33 (.slice (some ad) zs.length c) (.slice none 0 0)).run Try.prog w = .ok (.bool false) w := eql_nil w (some ad) _ c
    go_enter Try.func38, Try.ntmps38
    go_wp2_with (at_builtin; refine row_clone rfl (.tmp 5) (.tmp 6) rfl w.heap.size _ _ zs rfl rfl hi.out hl (Nat.le_refl _) ?_)
    intro v' w' r b
    have H : Hid (IRow w.heap.size w' v' zs ∧ Below w.heap.size w w') := ⟨r, b⟩
    clear r b
    go_wp2
    go_ret
    exact ⟨_, rfl, H.out⟩
end Go.Proofs.Ytojmghnbekneiaa

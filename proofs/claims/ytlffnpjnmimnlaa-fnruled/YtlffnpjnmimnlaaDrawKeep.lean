/-
  What stays when the cursor draws: tables, bytes and the cursor itself. By the verifier.
-/
import Derived.Test.YtlffnpjnmimnlaaDrawCur
import Derived.Test.YtlffnpjnmimnlaaFrConv
namespace Go.Proofs.Ytlffnpjnmimnlaa
open Go.RowKit

/-- Bytes laid behind the cursor stay when it draws. -/
theorem Row.keep {base bc : Nat} {w w' : World} {v : Value} {xs : List Int} (h : Row base w v xs) (hb : bc < base) (k : Keep bc w w') : Row base w' v xs := by
  refine ⟨h.1, h.2.imp id ?_⟩
  rintro ⟨g0, cap, cur, h1, h2, h3, h4⟩
  refine ⟨g0, cap, cur, h1, h2, ?_, h4⟩
  have hlt : g0 < w.heap.size := by
    apply Classical.byContradiction
    intro hn
    rw [Array.getElem?_eq_none (by omega)] at h3
    cases h3
  rw [k.block g0 (by omega) hlt]; exact h3
/-- Two bytes more, behind a list of the call's own. -/
theorem row_app2 {ops : Array Oper} {rest : List Oper} {o : Oper} {a : Act} {Q : Exit → Act → World → Prop} {w : World} (hgd : o.guard = none) (s x : Operand)
    (ho : o.op = .call { callee := .builtin .append, args := #[s, x], argTypes := #[22, 22] })
    (base : Nat) (v : Value) (xs : List Int) (y z : Int) (hs : a.eval s = v) (hrow : Row base w v xs) (hx : a.eval x = .slice (some ⟨w.heap.size, 0, none⟩) 2 2)
    (hlen : xs.length ≤ 1000000) (hb : base ≤ w.heap.size)
    (h : ∀ v' w', Row base w' v' (xs ++ [y, z]) → Below base w w' → wpList Try.prog ops Q rest (a.put o.dst v') w') :
    wpList Try.prog ops Q (o :: rest) a (w.alloc (.cells #[.int .u8 y, .int .u8 z] 5)) := by
  obtain ⟨i0, hi, hz0, hz1, hz2⟩ := info_parts info5
  refine wpList_append_own _ hgd s x 22 ho base 5 i0 (.int .u8 0) 1 1 Try.underlying22 hi hz0 hz1 hz2 rfl (by decide) _ _ _ hs (Row.alloc hrow _) ⟨w.heap.size, 0, none⟩ 2 2 [.int .u8 y, .int .u8 z] hx rfl ?_ ?_ ?_ ?_ ?_ ?_
  · intro j u hj
    match j, hj with
    | 0, hj => simp at hj; subst hj; simp [Addr.add]
    | 1, hj => simp at hj; subst hj; simp [Addr.add]
  · intro u hu; simp at hu; rcases hu with rfl | rfl <;> rfl
  · unfold maxLen; omega
  · omega
  · simp; omega
  · intro v' w' h1 h2 _
    refine h v' w' (row_more (m := 2) (ys := [y, z]) rfl (by simpa using h1)) ?_
    exact ((Below.refl base w).alloc hb _).grown h2 (by simp; omega) (fun k hk => Row.block hrow k hk)

end Go.Proofs.Ytlffnpjnmimnlaa

/-
  The model's l1Put into an empty list. By the verifier.
-/
import Derived.Test.YtlffnpjnmimnlaaCpPutI
namespace Go.Proofs.Ytlffnpjnmimnlaa
open Go.RowKit

/-- One number more, its block by number. -/
theorem row_iapp1n {ops : Array Oper} {rest : List Oper} {o : Oper} {a : Act} {Q : Exit → Act → World → Prop} {w wx : World} (hgd : o.guard = none) (s x : Operand)
    (ho : o.op = .call { callee := .builtin .append, args := #[s, x], argTypes := #[25, 25] })
    (base : Nat) (v : Value) (xs : List Int) (y : Int) {n : Nat} (hwx : wx = w.alloc (.cells #[.int .i64 y] 2)) (hs : a.eval s = v) (hrow : IRow base w v xs) (hx : a.eval x = .slice (some ⟨n, 0, none⟩) 1 1) (hn : n = w.heap.size)
    (hlen : xs.length ≤ 1000000) (hb : base ≤ w.heap.size)
    (h : ∀ v' w', IRow base w' v' (xs ++ [y]) → Below base w w' → wpList Try.prog ops Q rest (a.put o.dst v') w') :
    wpList Try.prog ops Q (o :: rest) a wx := by
  subst hwx
  subst hn
  exact row_iapp1 hgd s x ho base v xs y hs hrow hx hlen hb h

set_option maxHeartbeats 1600000 in
theorem specPutNil (base g cap : Nat) (x : Int) (w : World) (hb : base ≤ w.heap.size) :
    Calls Try.prog 47 #[.slice (some ⟨g, 0, none⟩) 0 cap, .int .i64 x] w fun e w' => (∃ v', e = .returned v' ∧ IRow base w' v' [x]) ∧ Below w.heap.size w w' := by
  have R0 : Hid (IRow w.heap.size ((w.alloc (.cells #[] 2)).alloc (.cells #[] 2)) (.slice (some ⟨w.heap.size + 1, 0, none⟩) 0 0) []) := by
    have q := irow_built (w.alloc (.cells #[] 2)) w.heap.size (by simp)
    rw [World.size_alloc] at q
    exact q
  have B0 : Hid (Below w.heap.size w ((w.alloc (.cells #[] 2)).alloc (.cells #[] 2))) := ((Below.refl _ w).alloc (Nat.le_refl _) _).alloc (by simp) _
  go_enter Try.func47, Try.ntmps47
  go_wp2
  go_loopw [5] (fun i wr => i = .int .i64 0 ∧ wr = w) (fun i _ => 0)
  case atStart => exact ⟨rfl, rfl⟩
  case round =>
    obtain ⟨rfl, hw⟩ := hrel
    have hw' := hw.symm
    subst hw'
    clear hw
    go_wp2_with (first | (refine row_iapp1n rfl (.tmp 43) (.tmp 45) rfl w.heap.size (.slice (some ⟨w.heap.size + 1, 0, none⟩) 0 0) [] x rfl rfl R0.out rfl (by simp) (by simp) (by simp; omega) ?_; intro v1 w1 r1 b1; have H1 : Hid (IRow w.heap.size w1 v1 [x] ∧ Below w.heap.size w w1) := ⟨r1, B0.out.trans b1⟩; clear r1 b1) | (refine row_iapp rfl (.tmp 46) (.tmp 47) rfl w.heap.size v1 [x] w.heap.size 0 0 0 [] rfl rfl rfl H1.out.1 (fun k hk => by omega) (by simp) H1.out.2.size ?_; intro v2 w2 r2 b2 _ _; have H2 : Hid (IRow w.heap.size w2 v2 [x] ∧ Below w.heap.size w w2) := ⟨by simpa using r2, H1.out.2.trans b2⟩; clear r2 b2))
    go_ret
    exact ⟨⟨_, rfl, H2.out.1.mono hb⟩, H2.out.2⟩
end Go.Proofs.Ytlffnpjnmimnlaa

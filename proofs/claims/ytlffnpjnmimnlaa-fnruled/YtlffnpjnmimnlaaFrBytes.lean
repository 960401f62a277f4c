/-
  The walks of withNumber and l2Bytes: a number's bytes, the highest first, behind a list of the call's own. By the verifier.
-/
import Derived.Test.YtlffnpjnmimnlaaRows
import Derived.WalkKit
import Derived.WalkSpells
import Derived.WalkLawsBesides
import Derived.RowKit3
import Derived.Handy
import Derived.Test.YtlffnpjnmimnlaaFrPlain
namespace Go.Proofs.Ytlffnpjnmimnlaa
open Go.RowKit

/-- A list of bytes of the call's own. -/
def Row (base : Nat) (w : World) (v : Value) (xs : List Int) : Prop := w.ownsRow base 5 1 v xs.length (xs.map (Value.int .u8))
theorem Row.nil (base : Nat) (w : World) : Row base w (.slice none 0 0) [] := World.ownsRow_nil _ _ _ _
theorem Row.alloc {base : Nat} {w : World} {v : Value} {xs : List Int} (h : Row base w v xs) (o : Obj) : Row base (w.alloc o) v xs := World.ownsRow.alloc h o
theorem Row.drew {base : Nat} {w : World} {v : Value} {xs : List Int} (h : Row base w v xs) : Row base w.drew v xs := World.ownsRow.drew h
theorem Row.block {base : Nat} {w : World} {v : Value} {xs : List Int} (h : Row base w v xs) : ∀ k, v.ownBlock = some k → base ≤ k := fun k hk => (World.ownsRow.lt h k hk).1
theorem info5 : (Try.prog.info? 5).map (fun i => (i.zero, i.size, i.bytes)) = some (some (.int .u8 0), 1, 1) := by kernel_rfl
theorem row_more {base : Nat} {w : World} {v : Value} {xs ys : List Int} {m : Nat} (hm : ys.length = m) (h : w.ownsRow base 5 1 v (xs.length + m) (xs.map (Value.int .u8) ++ ys.map (Value.int .u8))) : Row base w v (xs ++ ys) := by
  subst hm
  unfold Row
  rw [List.length_append, List.map_append]
  exact h

theorem shr_byte (n : Int) (k : Nat) : n / 2 ^ (8 * k) % 256 = n / 256 ^ k % 256 := by
  rw [Int.pow_mul]; rfl

/-- One byte more, behind a list of the call's own. -/
theorem row_app1 {ops : Array Oper} {rest : List Oper} {o : Oper} {a : Act} {Q : Exit → Act → World → Prop} {w : World} (hgd : o.guard = none) (s x : Operand)
    (ho : o.op = .call { callee := .builtin .append, args := #[s, x], argTypes := #[22, 22] })
    (base : Nat) (v : Value) (xs : List Int) (y : Int) (hs : a.eval s = v) (hrow : Row base w v xs) (hx : a.eval x = .slice (some ⟨w.heap.size, 0, none⟩) 1 1)
    (hlen : xs.length ≤ 1000000) (hb : base ≤ w.heap.size)
    (h : ∀ v' w', Row base w' v' (xs ++ [y]) → Below base w w' → wpList Try.prog ops Q rest (a.put o.dst v') w') :
    wpList Try.prog ops Q (o :: rest) a (w.alloc (.cells #[.int .u8 y] 5)) := by
  obtain ⟨i0, hi, hz0, hz1, hz2⟩ := info_parts info5
  refine wpList_append_own _ hgd s x 22 ho base 5 i0 (.int .u8 0) 1 1 Try.underlying22 hi hz0 hz1 hz2 rfl (by decide) _ _ _ hs (Row.alloc hrow _) ⟨w.heap.size, 0, none⟩ 1 1 [.int .u8 y] hx rfl ?_ ?_ ?_ ?_ ?_ ?_
  · intro j u hj
    match j, hj with
    | 0, hj => simp at hj; subst hj; simp [Addr.add]
  · intro u hu; simp at hu; subst hu; rfl
  · unfold maxLen; omega
  · omega
  · simp; omega
  · intro v' w' h1 h2 _
    refine h v' w' (row_more (m := 1) (ys := [y]) rfl (by simpa using h1)) ?_
    exact ((Below.refl base w).alloc hb _).grown h2 (by simp; omega) (fun k hk => Row.block hrow k hk)

theorem be_succ_split {P : List Int} {k size : Nat} {n : Int} (h : P ++ be (k + 1) n = be size n) : (P ++ [n / 2 ^ (8 * k) % 256]) ++ be k n = be size n := by
  rw [← h, shr_byte]; simp [be]

set_option maxHeartbeats 1600000 in
theorem specBytes (base : Nat) (v : Value) (xs : List Int) (size : Nat) (n : Int) (w : World) (hs : size ≤ 8) (hx : xs.length ≤ 4000) (n0 : 0 ≤ n) (hb : base ≤ w.heap.size) (own : Hid (Row base w v xs)) :
    Calls Try.prog 89 #[v, .int .i64 n, .int .i64 size] w fun e w' => ∃ v', e = .returned v' ∧ Row base w' v' (xs ++ be size n) ∧ Below base w w' := by
  go_enter Try.func89, Try.ntmps89
  go_wp2
  go_loopw [0, 7] (fun v i wr => ∃ (k : Nat) (P : List Int), k ≤ size ∧ i = .int .i64 ((k : Int) - 1) ∧ P.length + k = size ∧ Hid (P ++ be k n = be size n) ∧ Hid (Row base wr v (xs ++ P)) ∧ Hid (Below base w wr)) (fun _ i _ => (intOf i + 1).toNat)
  case atStart => exact ⟨size, [], Nat.le_refl _, rfl, by simp, rfl, by simpa only [List.append_nil] using own, Below.refl _ _⟩
  case round =>
    obtain ⟨k, P, hk, rfl, hP, hbe, hrow, hbel⟩ := hrel
    cases k with
    | zero =>
      go_wp2
      go_ret
      refine ⟨_, rfl, ?_, hbel.out⟩
      have := hbe.out
      simp only [be, List.append_nil] at this
      rw [← this]; exact hrow.out
    | succ k =>
      have hsz := hbel.out.size
      have y0 : (n / 2 ^ (8 * k)).tmod 256 = n / 2 ^ (8 * k) % 256 := Int.tmod_eq_emod_of_nonneg (Int.ediv_nonneg n0 (Int.le_of_lt (Int.pow_pos (by decide))))
      go_wp2_with (at_builtin; refine row_app1 rfl (.tmp 14) (.tmp 22) rfl base _ (xs ++ P) (n / 2 ^ (8 * k) % 256) rfl hrow.out rfl ?_ ?_ ?_)
      · rw [List.length_append]; omega
      · omega
      · intro v' w' h1 h2
        have H1 : Hid (Row base w' v' (xs ++ (P ++ [n / 2 ^ (8 * k) % 256]))) := h1
        have H2 : Hid (Below base w w') := hbel.out.trans h2
        clear h1 h2
        go_wp2
        go_roundw
        case rel => exact ⟨k, P ++ [n / 2 ^ (8 * k) % 256], by omega, by go_num, by simp; omega, be_succ_split hbe.out, H1, H2⟩
        case measure => simp [intOf]
end Go.Proofs.Ytlffnpjnmimnlaa

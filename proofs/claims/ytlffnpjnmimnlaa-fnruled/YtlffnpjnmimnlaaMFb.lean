import Derived.Test.YtlffnpjnmimnlaaMFl
import Derived.Laws.Rows
import Derived.Laws.Tables
import Derived.Test.YtlffnpjnmimnlaaNums
import Derived.Laws.AppendOwn
import Derived.Laws.OwnMore
import Derived.Laws.AppendOwnNone
import Derived.Lib.SliceRun
import Derived.Laws.ResultCell
import Derived.Test.YtlffnpjnmimnlaaRows
import Derived.WalkKit
import Derived.WalkSpells
import Derived.WalkLawsBesides
import Derived.RowKit3
import Derived.Below
/-
  A struct's block as one fact: a field put, all fields put. By the verifier.
-/
namespace Go.Proofs.Ytlffnpjnmimnlaa
open Go.RowKit

/-- A frame's eleven cells are one cell each. -/
theorem frameOne (b c d e f g h i j : Int) (s : Option Addr) (l cap : Nat) (x : ByteArray) : (#[Value.int .i64 b, .int .i64 c, .slice s l cap, .int .i64 d, .int .i64 e, .int .i64 f, .int .i64 g, .int .i64 h, .int .i64 i, .int .i64 j, .string x] : Array Value).all (·.oneCell') = true := by
  simp [Value.oneCell']
end Go.Proofs.Ytlffnpjnmimnlaa

/-
  Lists of numbers of the call's own. By the verifier.
-/
namespace Go.Proofs.Ytlffnpjnmimnlaa
open Go.RowKit

theorem heapLt' {w : World} {k : Nat} {o : Obj} (h : w.heap[k]? = some o) : k < w.heap.size := (Array.getElem?_eq_some_iff.1 h).1
/-- A list of numbers of the call's own. -/
def IRow (base : Nat) (w : World) (v : Value) (T : List Int) : Prop := w.ownsRow base 2 1 v T.length (T.map (Value.int .i64))
theorem IRow.carry {base : Nat} {w w' : World} {v : Value} {T : List Int} (h : IRow base w v T) (g : ∀ k, base ≤ k → k < w.heap.size → w'.heap[k]? = w.heap[k]?) : IRow base w' v T := by
  refine ⟨h.1, h.2.imp id ?_⟩
  rintro ⟨g0, cap, cur, h1, h2, h3, h4⟩
  exact ⟨g0, cap, cur, h1, h2, by rw [g g0 h2 (heapLt' h3)]; exact h3, h4⟩
theorem IRow.shape {base : Nat} {w : World} {v : Value} {T : List Int} (h : IRow base w v T) : ∃ a cap, v = .slice a T.length cap := by
  rcases h.2 with ⟨rfl, hn⟩ | ⟨g, cap, cur, rfl, _⟩
  · rw [hn]; exact ⟨none, 0, rfl⟩
  · exact ⟨_, _, rfl⟩
theorem IRow.ints {base : Nat} {w : World} {a : Option Addr} {cap : Nat} {T : List Int} (h : IRow base w (.slice a T.length cap) T) : IntsAt w a T := by
  intro k hk
  rcases h.2 with ⟨_, hn⟩ | ⟨g, cap', cur, e, h2, h3, h4⟩
  · omega
  · obtain ⟨rfl, _, rfl⟩ : a = some ⟨g, 0, none⟩ ∧ True ∧ cap = cap' := by simpa using e
    have hc := World.ownsRow.cellAt (show w.ownsRow base 2 1 (.slice (some ⟨g, 0, none⟩) T.length cap) T.length _ from h) k (by omega)
    exact ⟨g, 0, rfl, heapLt' h3, by rw [Nat.zero_add, hc]; simp [List.getElem?_eq_getElem hk]⟩

theorem IRow.mono {base base' : Nat} {w : World} {v : Value} {xs : List Int} (h : IRow base w v xs) (hb : base' ≤ base) : IRow base' w v xs := ⟨h.1, h.2.imp id fun ⟨g, cap, cur, h1, h2, h3⟩ => ⟨g, cap, cur, h1, Nat.le_trans hb h2, h3⟩⟩
theorem info2' : (Try.prog.info? 2).map (fun i => (i.zero, i.size, i.bytes)) = some (some (.int .i64 0), 1, 8) := by kernel_rfl
theorem IRow.block {base : Nat} {w : World} {v : Value} {xs : List Int} (h : IRow base w v xs) : ∀ k, v.ownBlock = some k → base ≤ k := fun k hk => (World.ownsRow.lt h k hk).1
/-- One number more, behind a list of the call's own. -/
theorem row_iapp1 {ops : Array Oper} {rest : List Oper} {o : Oper} {a : Act} {Q : Exit → Act → World → Prop} {w : World} (hgd : o.guard = none) (s x : Operand)
    (ho : o.op = .call { callee := .builtin .append, args := #[s, x], argTypes := #[25, 25] })
    (base : Nat) (v : Value) (xs : List Int) (y : Int) (hs : a.eval s = v) (hrow : IRow base w v xs) (hx : a.eval x = .slice (some ⟨w.heap.size, 0, none⟩) 1 1)
    (hlen : xs.length ≤ 1000000) (hb : base ≤ w.heap.size)
    (h : ∀ v' w', IRow base w' v' (xs ++ [y]) → Below base w w' → wpList Try.prog ops Q rest (a.put o.dst v') w') :
    wpList Try.prog ops Q (o :: rest) a (w.alloc (.cells #[.int .i64 y] 2)) := by
  obtain ⟨i0, hi, hz0, hz1, hz2⟩ := info_parts info2'
  refine wpList_append_own _ hgd s x 25 ho base 2 i0 (.int .i64 0) 1 8 Try.underlying25 hi hz0 hz1 hz2 rfl (by decide) _ _ _ hs (World.ownsRow.alloc hrow _) ⟨w.heap.size, 0, none⟩ 1 1 [.int .i64 y] hx rfl ?_ ?_ ?_ ?_ ?_ ?_
  · intro j u hj
    match j, hj with
    | 0, hj => simp at hj; subst hj; simp [Addr.add]
  · intro u hu; simp at hu; subst hu; rfl
  · unfold maxLen; omega
  · omega
  · simp; omega
  · intro v' w' h1 h2 _
    refine h v' w' ?_ ?_
    · unfold IRow
      rw [List.length_append, List.map_append]
      exact h1
    · exact ((Below.refl base w).alloc hb _).grown h2 (by simp; omega) (fun k hk => IRow.block hrow k hk)
theorem IRow.below {base n : Nat} {w w' : World} {v : Value} {l : List Int} (h : IRow base w v l) (hn : ∀ k, v.ownBlock = some k → k < n) (g : Below n w w') : IRow base w' v l := by
  refine ⟨h.1, h.2.imp id ?_⟩
  rintro ⟨g0, cap, cur, h1, h2, h3, h4⟩
  exact ⟨g0, cap, cur, h1, h2, by rw [g.block g0 (hn g0 (by rw [h1]; rfl))]; exact h3, h4⟩
theorem IRow.lt {base : Nat} {w : World} {v : Value} {l : List Int} (h : IRow base w v l) : ∀ k, v.ownBlock = some k → base ≤ k ∧ k < w.heap.size := World.ownsRow.lt h
theorem IRow.alloc {base : Nat} {w : World} {v : Value} {l : List Int} (h : IRow base w v l) (o : Obj) : IRow base (w.alloc o) v l := World.ownsRow.alloc h o
theorem irow_built (w : World) (base : Nat) (hb : base ≤ w.heap.size) : IRow base (w.alloc (.cells #[] 2)) (.slice (some ⟨w.heap.size, 0, none⟩) 0 0) [] :=
  ⟨rfl, .inr ⟨w.heap.size, 0, #[], rfl, hb, by show (w.heap.push _)[w.heap.size]? = _; simp, Nat.le_refl _, by decide, rfl, rfl⟩⟩
theorem IRow.none {base : Nat} {w : World} {a : Option Addr} {n cap : Nat} {l : List Int} (h : IRow base w (.slice a n cap) l) : a = .none → cap = 0 := by
  rintro rfl
  rcases h.2 with ⟨e, _⟩ | ⟨g, cap', cur, e, _⟩
  · cases e; rfl
  · cases e
/-- A list of numbers behind one of the call's own. -/
theorem row_iapp {ops : Array Oper} {rest : List Oper} {o : Oper} {a : Act} {Q : Exit → Act → World → Prop} {w : World} (hgd : o.guard = none) (s x : Operand)
    (ho : o.op = .call { callee := .builtin .append, args := #[s, x], argTypes := #[25, 25] })
    (base : Nat) (v : Value) (L : List Int) (b off m c : Nat) (M : List Int) (hm : M.length = m) (hs : a.eval s = v) (hx : a.eval x = .slice (some ⟨b, off, none⟩) m c) (hr : IRow base w v L) (hM : ∀ k, k < m → w.cell? ⟨b, off + k, none⟩ = some (.int .i64 (M[k]?.getD 0)))
    (hl : L.length + M.length ≤ 2097152) (hb : base ≤ w.heap.size)
    (h : ∀ v' w', IRow base w' v' (L ++ M) → Below base w w' → w.grownBy w' v.ownBlock → (v' = .slice none 0 0 → v = .slice none 0 0) → wpList Try.prog ops Q rest (a.put o.dst v') w') :
    wpList Try.prog ops Q (o :: rest) a w := by
  obtain ⟨i0, hi, hz0, hz1, hz2⟩ := info_parts info2'
  subst hm
  refine wpList_append_own _ hgd s x 25 ho base 2 i0 (.int .i64 0) 1 8 Try.underlying25 hi hz0 hz1 hz2 rfl (by decide) _ _ _ hs hr ⟨b, off, none⟩ M.length c (M.map (Value.int .i64)) hx (by simp) ?_ ?_ ?_ ?_ ?_ ?_
  · intro j u hj
    have hjl : j < M.length := by have := (List.getElem?_eq_some_iff.1 hj).1; simpa using this
    have e : (⟨b, off, none⟩ : Addr).add j = ⟨b, off + j, none⟩ := by by_cases h0 : j = 0 <;> simp [Addr.add, h0]
    rw [e, hM j hjl]
    rw [List.getElem?_map, List.getElem?_eq_getElem hjl] at hj
    rw [List.getElem?_eq_getElem hjl]
    simpa using hj
  · intro u hu
    simp at hu
    obtain ⟨y, _, rfl⟩ := hu
    rfl
  · unfold maxLen; omega
  · omega
  · omega
  · intro v' w' h1 h2 h3
    refine h v' w' ?_ ?_ h2 fun e => (h3.1 e).1
    · unfold IRow
      rw [List.length_append, List.map_append]
      exact h1
    · exact (Below.refl base w).grown h2 hb (fun k hk => IRow.block hr k hk)
end Go.Proofs.Ytlffnpjnmimnlaa

/-
  Lists of numbers of the call's own; the empty frame. By the verifier.
-/
namespace Go.Proofs.Ytlffnpjnmimnlaa
open Go.RowKit

theorem heap_lt {w : World} {k : Nat} {o : Obj} (h : w.heap[k]? = some o) : k < w.heap.size := (Array.getElem?_eq_some_iff.1 h).1
/-- The cells of an empty frame. -/
def zeroFr : Array Value := #[.int .i64 0, .int .i64 0, .slice none 0 0, .int .i64 0, .int .i64 0, .int .i64 0, .int .i64 0, .int .i64 0, .int .i64 0, .int .i64 0, .string ⟨#[]⟩]
/-- The empty frame. -/
def noFr : Fr := ⟨0, 0, [], 0, 0, 0, 0, 0, 0, 0, ⟨#[]⟩⟩
theorem irow_other {base B : Nat} {w : World} {v : Value} {xs : List Int} {cs : Array Value} (h : IRow base w v xs) (x : Boxed w B cs 27) (cs' : Array Value) : IRow base (w.setRow B cs') v xs := by
  refine ⟨h.1, h.2.imp id ?_⟩
  rintro ⟨g0, cap, cur, h1, h2, h3, h4⟩
  have hne : g0 ≠ B := by
    rintro rfl
    unfold Boxed at x
    rw [x] at h3
    injection h3 with h3
    injection h3 with _ h3 _
    exact absurd h3 (by decide)
  exact ⟨g0, cap, cur, h1, h2, by rw [setRow_other _ _ _ _ hne]; exact h3, h4⟩
/-- One number more, as a step of a region that draws. -/
theorem step_iapp1 {ops : Array Oper} {o : Oper} {a : Act} {w wx : World} {K : Act → World → Prop} {Q : Exit → Act → World → Prop} {E : Prop} (hgd : o.guard = none) (s x : Operand)
    (ho : o.op = .call { callee := .builtin .append, args := #[s, x], argTypes := #[25, 25] })
    (base : Nat) (v : Value) (xs : List Int) (y : Int) (hwx : wx = w.alloc (.cells #[.int .i64 y] 2)) (hs : a.eval s = v) (hrow : IRow base w v xs) (hx : a.eval x = .slice (some ⟨w.heap.size, 0, none⟩) 1 1)
    (hlen : xs.length ≤ 1000000) (hb : base ≤ w.heap.size)
    (h : ∀ v' w', IRow base w' v' (xs ++ [y]) → Below base w w' → K (a.put o.dst v') w') :
    if Region.wanted o (yielded ops a.tmps) = true then Oper.wp Try.prog o a wx K Q else E := by
  subst hwx
  have hw : Region.wanted o (yielded ops a.tmps) = true := by simp [Region.wanted, hgd]
  rw [if_pos hw]
  obtain ⟨i0, hi, hz0, hz1, hz2⟩ := info_parts info2'
  obtain ⟨v', w', hrun, h1, h2, _⟩ := run_append_own (P := Try.prog) (w.alloc (.cells #[.int .i64 y] 2)) base 25 o.type 2 i0 (.int .i64 0) 1 8 Try.underlying25 hi hz0 hz1 hz2 rfl (by decide) v _ _ (World.ownsRow.alloc hrow _) ⟨w.heap.size, 0, none⟩ 1 1 [.int .i64 y] rfl
    (by intro j u hj
        match j, hj with
        | 0, hj => simp at hj; subst hj; simp [Addr.add]) (by intro u hu; simp at hu; subst hu; rfl) (by unfold maxLen; omega) (by omega) (by simp; omega)
  unfold Oper.wp
  simp [execOp, ho, resolve, invoke, builtin, hs, hx, hrun, Result.andThen]
  refine h v' w' ?_ ?_
  · unfold IRow
    rw [List.length_append, List.map_append]
    exact h1
  · exact ((Below.refl base w).alloc hb _).grown h2 (by simp; omega) (fun k hk => IRow.block hrow k hk)
end Go.Proofs.Ytlffnpjnmimnlaa

/-
  The sum of a text as plain data; the walks of the model's l3Fold and Sum16. By the verifier.
-/
namespace Go.Proofs.Ytlffnpjnmimnlaa
open Go.RowKit

/-- Two sums in one. -/
def fold16 (a b : Int) : Int := if 65535 < a + b then a + b - 65535 else a + b
theorem fold16_in {a b : Int} (a0 : 0 ≤ a) (a1 : a ≤ 65535) (b0 : 0 ≤ b) (b1 : b ≤ 65535) : 0 ≤ fold16 a b ∧ fold16 a b ≤ 65535 := by
  unfold fold16
  split <;> omega
/-- The byte at p; 0 behind the end. -/
def byteAt (text : ByteArray) (p : Nat) : Int := if h : p < text.size then ((text[p]'h).toNat : Int) else 0
theorem byteAt_in (text : ByteArray) (p : Nat) : 0 ≤ byteAt text p ∧ byteAt text p ≤ 255 := by
  unfold byteAt
  split
  · rename_i h
    have := (text[p]'h).toNat_lt
    omega
  · omega
/-- The pairs ahead of j, folded. -/
def sumTo (text : ByteArray) : Nat → Int
  | 0 => 0
  | j + 1 => fold16 (sumTo text j) (byteAt text (2 * j) * 256 + byteAt text (2 * j + 1))
theorem sumTo_in (text : ByteArray) (j : Nat) : 0 ≤ sumTo text j ∧ sumTo text j ≤ 65535 := by
  induction j with
  | zero => exact ⟨Int.le_refl _, by show (0 : Int) ≤ 65535; decide⟩
  | succ j ih =>
    have a := byteAt_in text (2 * j)
    have b := byteAt_in text (2 * j + 1)
    exact fold16_in ih.1 ih.2 (by omega) (by omega)
/-- The sum of a text. -/
def sum16 (text : ByteArray) : Int := 65535 - sumTo text ((text.size + 1) / 2)
theorem sum16_in (text : ByteArray) : 0 ≤ sum16 text ∧ sum16 text ≤ 65535 := by
  have := sumTo_in text ((text.size + 1) / 2)
  unfold sum16
  omega

theorem specFold16 (a b : Int) (a0 : 0 ≤ a) (a1 : a ≤ 65535) (b0 : 0 ≤ b) (b1 : b ≤ 65535) (w : World) :
    Calls Try.prog 88 #[.int .i64 a, .int .i64 b] w fun e w' => e = .returned (.int .i64 (fold16 a b)) ∧ w' = w := by
  unfold fold16
  by_cases h : 65535 < a + b
  · rw [if_pos h]
    go_enter Try.func88, Try.ntmps88
    go_wp2
    go_ret
    exact ⟨rfl, rfl⟩
  · rw [if_neg h]
    go_enter Try.func88, Try.ntmps88
    go_wp2
    go_ret
    exact ⟨rfl, rfl⟩

set_option maxHeartbeats 1600000 in
theorem specSum16 (text : ByteArray) (hsz : text.size ≤ 1048576) (w : World) :
    Calls Try.prog 83 #[.string text] w fun e w' => e = .returned (.int .i64 (sum16 text)) ∧ w' = w := by
  go_enter Try.func83, Try.ntmps83
  go_wp2
  go_loop [3, 4] (fun n i => ∃ j : Nat, j ≤ (text.size + 1) / 2 ∧ i = .int .i64 (2 * (j : Int)) ∧ n = .int .i64 (sumTo text j)) (fun _ i => text.size + 1 - (intOf i).toNat)
  case atStart => exact ⟨0, Nat.zero_le _, by simp, rfl⟩
  case round =>
    obtain ⟨j, hj, rfl, rfl⟩ := hrel
    obtain ⟨n0, n1⟩ := sumTo_in text j
    by_cases hlt : 2 * j < text.size
    · have hin' : 2 * (j : Int) < text.size := by omega
      have hs : Hid (sumTo text (j + 1) = fold16 (sumTo text j) (byteAt text (2 * j) * 256 + byteAt text (2 * j + 1))) := rfl
      have e0 : byteAt text (2 * j) = ((text[2 * j]'hlt).toNat : Int) := by unfold byteAt; rw [dif_pos hlt]
      have hx := (text[2 * j]'hlt).toNat_lt
      by_cases hl1 : 2 * j + 1 < text.size
      · have hin1 : 2 * (j : Int) + 1 < text.size := by omega
        have e1 : byteAt text (2 * j + 1) = ((text[2 * j + 1]'hl1).toNat : Int) := by unfold byteAt; rw [dif_pos hl1]
        have hy := (text[2 * j + 1]'hl1).toNat_lt
        rw [e0, e1] at hs
        generalize sumTo text j = n at hs n0 n1 ⊢
        go_wp2_with fail
        refine (specFold16 _ _ n0 n1 (by omega) (by omega) _).mono ?_
        rintro e w' ⟨rfl, rfl⟩
        go_wp2
        go_round
        case rel => exact ⟨j + 1, by omega, by go_num, by rw [hs.out]⟩
        case measure => simp [intOf]; omega
      · have hin1 : ¬ 2 * (j : Int) + 1 < text.size := by omega
        have e1 : byteAt text (2 * j + 1) = 0 := by unfold byteAt; rw [dif_neg hl1]
        rw [e0, e1, Int.add_zero] at hs
        generalize sumTo text j = n at hs n0 n1 ⊢
        go_wp2_with fail
        refine (specFold16 _ _ n0 n1 (by omega) (by omega) _).mono ?_
        rintro e w' ⟨rfl, rfl⟩
        go_wp2
        go_round
        case rel => exact ⟨j + 1, by omega, by go_num, by rw [hs.out]⟩
        case measure => simp [intOf]; omega
    · have he : j = (text.size + 1) / 2 := by omega
      have hs : Hid (sum16 text = 65535 - sumTo text j) := by subst he; rfl
      generalize sumTo text j = n at hs n0 n1 ⊢
      go_wp2
      go_ret
      exact ⟨by rw [hs.out]; rfl, rfl⟩
end Go.Proofs.Ytlffnpjnmimnlaa

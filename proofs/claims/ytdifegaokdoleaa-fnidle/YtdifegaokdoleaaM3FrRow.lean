import Derived.Test.YtdifegaokdoleaaM1FrBytes
import Derived.Test.YtdifegaokdoleaaFrOk
import Derived.Test.YtdifegaokdoleaaM2Box
import Derived.Deep.RegionLaw
import Derived.Deep.DeepCutAuto
import Derived.Laws.Rows
import Derived.Laws.Tables
import Derived.Test.YtdifegaokdoleaaIntRow
import Derived.Laws.ResultCell
/-
  Small joins for frames and their bytes. By the verifier.
-/
namespace Go.Proofs.Ytdifegaokdoleaa
open Go.RowKit

theorem below_of_alloc {w w' : World} {o : Obj} (g : Below (w.heap.size + 1) (w.alloc o) w') : Below w.heap.size w w' :=
  (bel_alloc (Below.refl _ w) (Nat.le_refl _) o).trans (g.mono (Nat.le_succ _))
theorem Row.mono {base base' : Nat} {w : World} {v : Value} {xs : List Int} (h : Row base w v xs) (hb : base' ≤ base) : Row base' w v xs := ⟨h.1, h.2.imp id fun ⟨g, cap, cur, h1, h2, h3⟩ => ⟨g, cap, cur, h1, Nat.le_trans hb h2, h3⟩⟩
theorem tagBytes_take (tags : List Int) (k : Nat) (hk : k < tags.length) : tagBytes (tags.take (k + 1)) = tagBytes (tags.take k) ++ [1] ++ be 2 (tags[k]?.getD 0) := by
  rw [List.take_succ_eq_append_getElem hk, tagBytes_append]; simp [tagBytes, List.getElem?_eq_getElem hk]
theorem ints_below {w w' : World} {a : Option Addr} {zs : List Int} {B : Nat} (h : IntsAt w a zs) (hB : w.heap.size ≤ B) (g : Below B w w') : IntsAt w' a zs := h.below (g.mono hB)
end Go.Proofs.Ytdifegaokdoleaa

/-
  Steps of a region that draws its order: a call by its contract; an append to a list of bytes of the call's own. By the verifier.
-/
namespace Go.Proofs.Ytdifegaokdoleaa
open Go.RowKit

theorem step_call {P : Program} {ops : Array Oper} {o : Oper} {a : Act} {w : World} {K : Act → World → Prop} {Q : Exit → Act → World → Prop} {E : Prop}
    (hg : o.guard = none) (f : FuncId) {az : Array Operand} {ts : Array TypeId} (_ho : o.op = .call { callee := .value (.func f), args := az, argTypes := ts }) (args : Array Value) (hrun : (execOp a.eval o).run P w = .ok (.enter f args) w) {post : Ending → World → Prop} (hc : Calls P f args w post)
    (h : ∀ e w', post e w' → ∃ v, e = .returned v ∧ K (a.put o.dst v) w') :
    if Region.wanted o (yielded ops a.tmps) = true then Oper.wp P o a w K Q else E := by
  have hw : Region.wanted o (yielded ops a.tmps) = true := by simp [Region.wanted, hg]
  rw [if_pos hw]
  unfold Oper.wp
  rw [hrun, Oper.upon_enter]
  refine hc.mono fun e w'' hh => ?_
  obtain ⟨v, rfl, hk⟩ := h e w'' hh
  exact hk

/-- One byte more, as a step of a region that draws. -/
theorem step_app1 {ops : Array Oper} {o : Oper} {a : Act} {w wx : World} {K : Act → World → Prop} {Q : Exit → Act → World → Prop} {E : Prop} (hgd : o.guard = none) (s x : Operand)
    (ho : o.op = .call { callee := .builtin .append, args := #[s, x], argTypes := #[22, 22] })
    (base : Nat) (v : Value) (xs : List Int) (y : Int) (hwx : wx = w.alloc (.cells #[.int .u8 y] 5)) (hs : a.eval s = v) (hrow : Row base w v xs) (hx : a.eval x = .slice (some ⟨w.heap.size, 0, none⟩) 1 1)
    (hlen : xs.length ≤ 1000000) (hb : base ≤ w.heap.size)
    (h : ∀ v' w', Row base w' v' (xs ++ [y]) → Below base w w' → K (a.put o.dst v') w') :
    if Region.wanted o (yielded ops a.tmps) = true then Oper.wp Try.prog o a wx K Q else E := by
  subst hwx
  have hw : Region.wanted o (yielded ops a.tmps) = true := by simp [Region.wanted, hgd]
  rw [if_pos hw]
  obtain ⟨i0, hi, hz0, hz1, hz2⟩ := info_parts info5
  obtain ⟨v', w', hrun, h1, h2, _⟩ := run_append_own (P := Try.prog) (w.alloc (.cells #[.int .u8 y] 5)) base 22 o.type 5 i0 (.int .u8 0) 1 1 Try.underlying22 hi hz0 hz1 hz2 rfl (by decide) v _ _ (Row.alloc hrow _) ⟨w.heap.size, 0, none⟩ 1 1 [.int .u8 y] rfl
    (by intro j u hj
        match j, hj with
        | 0, hj => simp at hj; subst hj; simp [Addr.add]) (by intro u hu; simp at hu; subst hu; rfl) (by unfold maxLen; omega) (by omega) (by simp; omega)
  unfold Oper.wp
  simp [execOp, ho, resolve, invoke, builtin, hs, hx, hrun, Result.andThen]
  refine h v' w' (row_more (m := 1) (ys := [y]) rfl (by simpa using h1)) ?_
  exact ((Below.refl base w).alloc hb _).grown h2 (by simp; omega) (fun k hk => Row.block hrow k hk)

theorem row_lit0 (base : Nat) (w : World) (B : Nat) (hB : B = w.heap.size) (hb : base ≤ w.heap.size) : Row base (w.alloc (.cells #[] 5)) (.slice (some ⟨B, 0, none⟩) 0 0) [] := by
  subst hB
  exact World.ownsRow_lit (size := 1) w #[] 0 hb (by unfold maxLen; omega) rfl
theorem Row.below {base b : Nat} {w w' : World} {v : Value} {xs : List Int} (h : Row base w v xs) (g : Below b w w') (hb : w.heap.size ≤ b) : Row base w' v xs := by
  refine ⟨h.1, h.2.imp id ?_⟩
  rintro ⟨g0, cap, cur, h1, h2, h3, h4⟩
  refine ⟨g0, cap, cur, h1, h2, ?_, h4⟩
  have hlt : g0 < w.heap.size := by
    apply Classical.byContradiction
    intro hn
    rw [Array.getElem?_eq_none (by omega)] at h3
    cases h3
  rw [g.block g0 (by omega)]; exact h3
end Go.Proofs.Ytdifegaokdoleaa

/-
  A struct's block as one fact: a field put, all fields put. By the verifier.
-/
namespace Go.Proofs.Ytdifegaokdoleaa
open Go.RowKit

/-- A frame's eleven cells are one cell each. -/
theorem frameOne (b c d e f g h i j : Int) (s : Option Addr) (l cap : Nat) (x : ByteArray) : (#[Value.int .i64 b, .int .i64 c, .slice s l cap, .int .i64 d, .int .i64 e, .int .i64 f, .int .i64 g, .int .i64 h, .int .i64 i, .int .i64 j, .string x] : Array Value).all (·.oneCell') = true := by
  simp [Value.oneCell']
end Go.Proofs.Ytdifegaokdoleaa

/-
  Lists of numbers of the call's own; the empty frame. By the verifier.
-/
namespace Go.Proofs.Ytdifegaokdoleaa
open Go.RowKit

theorem heap_lt {w : World} {k : Nat} {o : Obj} (h : w.heap[k]? = some o) : k < w.heap.size := (Array.getElem?_eq_some_iff.1 h).1
/-- The cells of an empty frame. -/
def zeroFr : Array Value := #[.int .i64 0, .int .i64 0, .slice none 0 0, .int .i64 0, .int .i64 0, .int .i64 0, .int .i64 0, .int .i64 0, .int .i64 0, .int .i64 0, .string ⟨#[]⟩]
/-- The empty frame. -/
def noFr : Fr := ⟨0, 0, [], 0, 0, 0, 0, 0, 0, 0, ⟨#[]⟩⟩
theorem irow_other {base B : Nat} {w : World} {v : Value} {xs : List Int} {cs : Array Value} (h : IRow base w v xs) (x : Boxed w B cs 27) (cs' : Array Value) : IRow base (w.setRow B cs') v xs := by
  refine ⟨h.1, h.2.imp id ?_⟩
  rintro ⟨g0, cap, cur, h1, h2, h3, h4⟩
  have hne : g0 ≠ B := by
    rintro rfl
    unfold Boxed at x
    rw [x] at h3
    injection h3 with h3
    injection h3 with _ h3 _
    exact absurd h3 (by decide)
  exact ⟨g0, cap, cur, h1, h2, by rw [setRow_other _ _ _ _ hne]; exact h3, h4⟩
/-- One number more, as a step of a region that draws. -/
theorem step_iapp1 {ops : Array Oper} {o : Oper} {a : Act} {w wx : World} {K : Act → World → Prop} {Q : Exit → Act → World → Prop} {E : Prop} (hgd : o.guard = none) (s x : Operand)
    (ho : o.op = .call { callee := .builtin .append, args := #[s, x], argTypes := #[25, 25] })
    (base : Nat) (v : Value) (xs : List Int) (y : Int) (hwx : wx = w.alloc (.cells #[.int .i64 y] 2)) (hs : a.eval s = v) (hrow : IRow base w v xs) (hx : a.eval x = .slice (some ⟨w.heap.size, 0, none⟩) 1 1)
    (hlen : xs.length ≤ 1000000) (hb : base ≤ w.heap.size)
    (h : ∀ v' w', IRow base w' v' (xs ++ [y]) → Below base w w' → K (a.put o.dst v') w') :
    if Region.wanted o (yielded ops a.tmps) = true then Oper.wp Try.prog o a wx K Q else E := by
  subst hwx
  have hw : Region.wanted o (yielded ops a.tmps) = true := by simp [Region.wanted, hgd]
  rw [if_pos hw]
  obtain ⟨i0, hi, hz0, hz1, hz2⟩ := info_parts info2'
  obtain ⟨v', w', hrun, h1, h2, _⟩ := run_append_own (P := Try.prog) (w.alloc (.cells #[.int .i64 y] 2)) base 25 o.type 2 i0 (.int .i64 0) 1 8 Try.underlying25 hi hz0 hz1 hz2 rfl (by decide) v _ _ (World.ownsRow.alloc hrow _) ⟨w.heap.size, 0, none⟩ 1 1 [.int .i64 y] rfl
    (by intro j u hj
        match j, hj with
        | 0, hj => simp at hj; subst hj; simp [Addr.add]) (by intro u hu; simp at hu; subst hu; rfl) (by unfold maxLen; omega) (by omega) (by simp; omega)
  unfold Oper.wp
  simp [execOp, ho, resolve, invoke, builtin, hs, hx, hrun, Result.andThen]
  refine h v' w' ?_ ?_
  · unfold IRow
    rw [List.length_append, List.map_append]
    exact h1
  · exact ((Below.refl base w).alloc hb _).grown h2 (by simp; omega) (fun k hk => IRow.block hrow k hk)
end Go.Proofs.Ytdifegaokdoleaa

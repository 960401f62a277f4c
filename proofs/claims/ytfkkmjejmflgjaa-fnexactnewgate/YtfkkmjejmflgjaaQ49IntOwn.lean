import Derived.Test.YtfkkmjejmflgjaaQ5FwPlain
import Derived.Laws.MakeOwn
import Derived.Test.YtfkkmjejmflgjaaQ2SsV
import Derived.Laws.CopyRow
import Derived.Laws.IdiomCopy
import Derived.Laws.CopyOwn
import Derived.Laws.AppendOwn
/-
  A list of numbers made: make([]int64, n). By the verifier.
-/
namespace Go.Proofs.Ytfkkmjejmflgjaa
open Go.RowKit

theorem mkInts_run (n : Nat) (hn : n ≤ 1048576) (wx : World) : (Instr.makeSlice 25 (.int .i64 (n : Int)) (.int .i64 (n : Int))).run Try.prog wx = .ok (.slice (some ⟨wx.heap.size, 0, none⟩) n n) (wx.alloc (.cells (madeCells #[.int .i64 0] (n * 1)) 2)) := by
  obtain ⟨i0, hi, hz0, hz1, hz2⟩ := info_parts info2'
  have := run_make (P := Try.prog) wx 25 2 i0 (.int .i64 0) Try.underlying25 hi hz0 .i64 .i64 n n (by omega) (by omega) (by rw [hz2]; omega) (by omega)
  rw [this, hz1]; simp [Value.cells]
end Go.Proofs.Ytfkkmjejmflgjaa

/-
  A list of numbers copied (make and copy), and one number put behind a list whose room ends: the program's copyOf and withLast at numbers. By the verifier.
-/
namespace Go.Proofs.Ytfkkmjejmflgjaa
open Go.RowKit

theorem IntsAt.src {w : World} {ad : Addr} {L : List Int} (h : IntsAt w (some ad) L) : ∀ j v, (L.map (Value.int .i64))[j]? = some v → w.cell? (ad.add j) = some v := by
  intro j u hj
  have hj' : j < L.length := by have := (List.getElem?_eq_some_iff.1 hj).1; simpa using this
  obtain ⟨b, off, e, _, c0⟩ := h j hj'
  cases e
  rw [show (⟨b, off, none⟩ : Addr).add j = ⟨b, off + j, none⟩ by by_cases h0 : j = 0 <;> simp [Addr.add, h0], c0]
  rw [List.getElem?_map, List.getElem?_eq_getElem hj'] at hj
  rw [List.getElem?_eq_getElem hj']
  simpa using hj
theorem int_oneCell (L : List Int) : ∀ v ∈ L.map (Value.int .i64), v.oneCell' = true := by
  intro v hv
  obtain ⟨y, _, rfl⟩ := List.mem_map.1 hv
  rfl
theorem int_copy (w : World) (ty : TypeId) (g : Nat) (a : Option Addr) (sCap : Nat) (l : List Int) (cur : Array Value)
    (hg : w.heap[g]? = some (.cells cur 2 (0, 0))) (hc : cur.size = l.length) (h : IntsAt w a l) :
    (Builtin.copy_ #[25, 25] ty #[.slice (some ⟨g, 0, none⟩) l.length l.length, .slice a l.length sCap]).run Try.prog w =
      .ok (.int .i64 (l.length : Int)) (w.setRow g (l.map (Value.int .i64)).toArray) := by
  obtain ⟨i0, hi0, hz0, hz1, hz2⟩ := info_parts info2'
  have hs : (Try.prog.info? 2).map (·.size) = some 1 := by rw [hi0]; simp [hz1]
  cases l with
  | nil =>
    have e : w.setRow g (([] : List Int).map (Value.int .i64)).toArray = w := by
      obtain rfl : cur = #[] := by simpa using hc
      exact setRow_self w g _ _ _ hg
    rw [e]
    exact run_copy_none w _ _ ty 2 _ _ _ _ _ _ Try.underlying25 hs rfl
  | cons x xs =>
    obtain ⟨b, off, ha, _⟩ := h 0 (by simp)
    subst ha
    have hr := run_copy_row (P := Try.prog) w 25 25 ty 2 g 0 (x :: xs).length (x :: xs).length ⟨b, off, none⟩ (x :: xs).length sCap cur _ ((x :: xs).map (Value.int .i64)) Try.underlying25 hs hg (by simp) h.src (by simp [hc]) (int_oneCell _)
    have e1 : (cur.toList.take 0 ++ (x :: xs).map (Value.int .i64) ++ cur.toList.drop (0 + ((x :: xs).map (Value.int .i64)).length)) = (x :: xs).map (Value.int .i64) := by
      rw [List.take_zero, List.nil_append, Nat.zero_add, List.length_map, ← hc, ← Array.length_toList, List.drop_length, List.append_nil]
    rw [e1, List.length_map] at hr
    exact hr

set_option maxHeartbeats 1600000 in
theorem implCopyN (a : Option Addr) (cap : Nat) (l : List Int) (w : World) (h : Hid (IntsAt w a l)) (hT : l.length ≤ 1048576) :
    Calls Try.prog 23 #[.slice a l.length cap] w fun e w' => ∃ v, e = .returned v ∧ IRow w.heap.size w' v l ∧ Below w.heap.size w w' := by
  have hgm : (w.alloc (.cells (madeCells #[.int .i64 0] (l.length * 1)) 2)).heap[w.heap.size]? = some (.cells (madeCells #[.int .i64 0] (l.length * 1)) 2 (0, 0)) := by
    show (w.heap.push _)[w.heap.size]? = _
    simp
  have hcp := fun ty => int_copy (w.alloc (.cells (madeCells #[.int .i64 0] (l.length * 1)) 2)) ty w.heap.size a cap l _ hgm (by rw [size_madeCells]; omega) (h.out.below ((Below.refl _ _).alloc (Nat.le_refl _) _))
  have Fin : Hid (IRow w.heap.size ((w.alloc (.cells (madeCells #[.int .i64 0] (l.length * 1)) 2)).setRow w.heap.size (l.map (Value.int .i64)).toArray) (.slice (some ⟨w.heap.size, 0, none⟩) l.length l.length) l ∧ Below w.heap.size w ((w.alloc (.cells (madeCells #[.int .i64 0] (l.length * 1)) 2)).setRow w.heap.size (l.map (Value.int .i64)).toArray)) := by
    refine ⟨⟨by simp, .inr ⟨w.heap.size, l.length, (l.map (Value.int .i64)).toArray, rfl, Nat.le_refl _, setRow_heap _ _ _ _ _ _ hgm, Nat.le_refl _, by unfold maxLen; omega, by simp, ?_⟩⟩, ?_⟩
    · rw [Nat.mul_one]
      exact List.take_of_length_le (by simp)
    · exact below_setRow ((Below.refl _ _).alloc (Nat.le_refl _) _) (Nat.le_refl _) _
  clear hgm
  have hmk := mkInts_run l.length hT
  obtain ⟨len, hlen⟩ : ∃ n, l.length = n := ⟨_, rfl⟩
  rw [hlen] at hT hcp Fin hmk ⊢
  clear hlen
  rw [Nat.mul_one] at hcp Fin hmk
  generalize (w.alloc (.cells (madeCells #[.int .i64 0] len) 2)).setRow w.heap.size (l.map (Value.int .i64)).toArray = W2 at hcp Fin
  go_enter Try.func23, Try.ntmps23
  go_wp2
  go_ret
  exact ⟨_, rfl, Fin.out⟩

end Go.Proofs.Ytfkkmjejmflgjaa

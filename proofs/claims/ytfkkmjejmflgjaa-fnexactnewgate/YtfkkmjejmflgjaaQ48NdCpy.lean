/-
  copy at five cells a record, and the walk of the program's copy of a list. By the verifier.
-/
import Derived.Test.YtfkkmjejmflgjaaQ1NdPlain
import Derived.Laws.CopyRow
import Derived.Laws.IdiomCopy
import Derived.WalkKit
import Derived.WalkSpells
import Derived.WalkLawsBesides
namespace Go.Proofs.Ytfkkmjejmflgjaa
open Go.RowKit

theorem ndcopy_none (w : World) (ty : TypeId) (d s : Option Addr) (dc sc : Nat) :
    (Builtin.copy_ #[30, 30] ty #[.slice d 0 dc, .slice s 0 sc]).run Try.prog w = .ok (goInt 0) w := by
  obtain ⟨i0, hi0, hz0, hz1, hz2⟩ := info_parts ndInfo
  have hl : ∀ (x : Addr), (loadCells x 0).run Try.prog w = .ok #[] w := fun x => by simpa using run_loadCells_list (P := Try.prog) w x [] (by simp)
  cases d <;> cases s <;> simp [Builtin.copy_, run_underlying Try.underlying30, Builtin.lenOf, Builtin.firstCells, sizeOf, typeInfo, hi0, storeCells, hl]
theorem ndcopy_run (w : World) (ty : TypeId) (g : Nat) (a : Option Addr) (sCap : Nat) (l : List Nd) (cur : Array Value)
    (hg : w.heap[g]? = some (.cells cur 60 (0, 0))) (hc : cur.size = l.length * 5) (h : NdsAt w a l) :
    (Builtin.copy_ #[30, 30] ty #[.slice (some ⟨g, 0, none⟩) l.length l.length, .slice a l.length sCap]).run Try.prog w =
      .ok (.int .i64 (l.length : Int)) (w.setRow g (ndcells l).toArray) := by
  obtain ⟨i0, hi0, hz0, hz1, hz2⟩ := info_parts ndInfo
  cases l with
  | nil =>
    have e : w.setRow g (ndcells []).toArray = w := by
      obtain rfl : cur = #[] := by simpa using hc
      exact setRow_self w g _ _ _ hg
    rw [e]
    exact ndcopy_none w ty _ _ _ _
  | cons x xs =>
    obtain ⟨b, off, ha, _⟩ := h 0 (by simp)
    subst ha
    have hsrc : ∀ j v, (ndcells (x :: xs))[j]? = some v → w.cell? ((⟨b, off, none⟩ : Addr).add j) = some v := by
      intro j u hj
      have hj' : j < (x :: xs).length * 5 := by
        have := (List.getElem?_eq_some_iff.1 hj).1
        rwa [ndcells_length] at this
      obtain ⟨k, i, rfl, hi⟩ : ∃ k i, j = k * 5 + i ∧ i < 5 := ⟨j / 5, j % 5, by omega, Nat.mod_lt _ (by omega)⟩
      have hk : k < (x :: xs).length := by omega
      obtain ⟨b', off', e, _, c0, c1, c2, c3, c4⟩ := h k hk
      cases e
      obtain ⟨e0, e1, e2, e3, e4⟩ := ndcells_get (x :: xs) k hk
      rw [show (⟨b, off, none⟩ : Addr).add (k * 5 + i) = ⟨b, off + k * 5 + i, none⟩ by by_cases h0 : k * 5 + i = 0 <;> simp [Addr.add, h0, Nat.add_assoc]; omega]
      match i, hi with
      | 0, _ => rw [Nat.add_zero] at hj; rw [e0] at hj; rw [Nat.add_zero, c0]; exact hj
      | 1, _ => rw [e1] at hj; rw [c1]; exact hj
      | 2, _ => rw [e2] at hj; rw [c2]; exact hj
      | 3, _ => rw [e3] at hj; rw [c3]; exact hj
      | 4, _ => rw [e4] at hj; rw [c4]; exact hj
    generalize hL : x :: xs = L at *
    have hl := run_loadCells_list (P := Try.prog) w ⟨b, off, none⟩ (ndcells L) hsrc
    have hst := run_storeCells_at Try.prog g 0 60 (ndcells L) 0 cur w hg (by simp [ndcells_length, hc]) (ndcells_one L)
    have e1 : (cur.toList.take 0 ++ ndcells L ++ cur.toList.drop (0 + (ndcells L).length)) = ndcells L := by
      rw [List.take_zero, List.nil_append, Nat.zero_add, ndcells_length, ← hc, ← Array.length_toList, List.drop_length, List.append_nil]
    rw [Nat.add_zero, e1] at hst
    have hm : Nat.min L.length L.length = L.length := Nat.min_self _
    rw [ndcells_length] at hl
    simp [Builtin.copy_, run_underlying Try.underlying30, Builtin.lenOf, Builtin.firstCells, sizeOf, typeInfo, hi0, hz1, hm, hl, hst]
    rfl

set_option maxHeartbeats 1600000 in
theorem implCopyNd (a : Option Addr) (cap : Nat) (l : List Nd) (w : World) (hT : l.length ≤ 1048576) (h : Hid (NdsAt w a l)) :
    Calls Try.prog 22 #[.slice a l.length cap] w fun e w' => ∃ g, e = .returned (.slice (some ⟨g, 0, none⟩) l.length l.length) ∧ NdRow w.heap.size w' (.slice (some ⟨g, 0, none⟩) l.length l.length) l ∧ Below w.heap.size w w' := by
  obtain ⟨i0, hi, hz0, hz1, hz2⟩ := info_parts ndInfo
  have hgm : (w.alloc (.cells (madeCells #[.int .i64 0, .int .i64 0, .int .i64 0, .int .i64 0, .int .i64 0] (l.length * 5)) 60)).heap[w.heap.size]? = some (.cells (madeCells #[.int .i64 0, .int .i64 0, .int .i64 0, .int .i64 0, .int .i64 0] (l.length * 5)) 60 (0, 0)) := by
    show (w.heap.push _)[w.heap.size]? = _
    simp
  have hcp := fun ty => ndcopy_run (w.alloc (.cells (madeCells #[.int .i64 0, .int .i64 0, .int .i64 0, .int .i64 0, .int .i64 0] (l.length * 5)) 60)) ty w.heap.size a cap l _ hgm (by rw [size_madeCells]) (h.out.alloc _)
  have Fin : Hid (NdRow w.heap.size ((w.alloc (.cells (madeCells #[.int .i64 0, .int .i64 0, .int .i64 0, .int .i64 0, .int .i64 0] (l.length * 5)) 60)).setRow w.heap.size (ndcells l).toArray) (.slice (some ⟨w.heap.size, 0, none⟩) l.length l.length) l ∧ Below w.heap.size w ((w.alloc (.cells (madeCells #[.int .i64 0, .int .i64 0, .int .i64 0, .int .i64 0, .int .i64 0] (l.length * 5)) 60)).setRow w.heap.size (ndcells l).toArray)) := by
    refine ⟨⟨ndcells_length l, .inr ⟨w.heap.size, l.length, (ndcells l).toArray, rfl, Nat.le_refl _, setRow_heap _ _ _ _ _ _ hgm, Nat.le_refl _, by unfold maxLen; omega, by simp [ndcells_length], ?_⟩⟩, ?_⟩
    · simp [← ndcells_length]
    · have b : Below w.heap.size w (w.alloc (.cells (madeCells #[.int .i64 0, .int .i64 0, .int .i64 0, .int .i64 0, .int .i64 0] (l.length * 5)) 60)) := (Below.refl _ _).alloc (Nat.le_refl _) _
      exact b.trans ⟨rfl, rfl, rfl, by simp [World.setRow], fun k hk => setRow_other _ _ k _ (by omega)⟩
  clear hgm
  obtain ⟨len, hlen⟩ : ∃ n, l.length = n := ⟨_, rfl⟩
  rw [hlen] at hT hcp Fin ⊢
  clear hlen
  have hmk : ∀ wx, (Instr.makeSlice 30 (.int .i64 (len : Int)) (.int .i64 (len : Int))).run Try.prog wx = .ok (.slice (some ⟨wx.heap.size, 0, none⟩) len len) (wx.alloc (.cells (madeCells #[.int .i64 0, .int .i64 0, .int .i64 0, .int .i64 0, .int .i64 0] (len * 5)) 60)) := by
    intro wx
    have := run_make (P := Try.prog) wx 30 60 i0 (.agg #[.int .i64 0, .int .i64 0, .int .i64 0, .int .i64 0, .int .i64 0]) Try.underlying30 hi hz0 .i64 .i64 len len (by omega) (by omega) (by rw [hz2]; omega) (by omega)
    rw [this, hz1]; simp [Value.cells]
  clear hi hz0 hz1 hz2
  generalize (w.alloc (.cells (madeCells #[.int .i64 0, .int .i64 0, .int .i64 0, .int .i64 0, .int .i64 0] (len * 5)) 60)).setRow w.heap.size (ndcells l).toArray = W2 at hcp Fin
  go_enter Try.func22, Try.ntmps22
  go_wp2
  go_ret
  exact ⟨_, rfl, Fin.out⟩
end Go.Proofs.Ytfkkmjejmflgjaa

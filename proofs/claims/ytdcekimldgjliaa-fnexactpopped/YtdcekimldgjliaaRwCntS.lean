/-
  The walks of the model's Count and Weight. By the verifier.
-/
import Derived.Test.YtdcekimldgjliaaRwOkS
namespace Go.Proofs.Ytdcekimldgjliaa
open Go.RowKit

theorem specRowsOkV (r : Rw) (v : Value) (w : World) (hB : r.big ≤ 1048576) (h : Hid (RwAt w v r)) :
    Calls Try.prog 9 #[v] w fun e w' => e = .returned (.bool r.ok) ∧ Below w.heap.size w w' := by
  obtain ⟨a, c, rfl, k⟩ := h.out
  exact specRowsOk r a c w hB k

set_option maxHeartbeats 1600000 in
theorem specCount (r : Rw) (v : Value) (w : World) (hB : r.big ≤ 1048576) (h : Hid (RwAt w v r)) :
    Calls Try.prog 21 #[v] w fun e w' => e = .returned (.int .i64 r.count) ∧ Below w.heap.size w w' := by
  obtain ⟨a, c, rfl, k⟩ := h.out
  have K : Hid (IzAt w a r.lists) := k
  have A1 := fun w h => specRowsOk r a c w hB h
  have A2 := fun w h => specCountL r a c w hB h
  have Hv : Hid (r.count = if r.ok = true then (izSum r.lists r.lists.length : Int) else -1) := rfl
  generalize r.count = v at Hv ⊢
  generalize r.ok = ok at A1 Hv
  generalize (izSum r.lists r.lists.length : Int) = N at A2 Hv
  unfold Rw.val at A1 A2 ⊢
  generalize r.lists.length = n at A1 A2 ⊢
  generalize r.most = f at A1 A2 ⊢
  have A1' : Hid _ := A1
  have A2' : Hid _ := A2
  clear A1 A2 h k hB
  have X : Hid (IzAt (w.alloc (.cells #[.int .i64 f, .slice a n c] 29)) a r.lists ∧ Boxed (w.alloc (.cells #[.int .i64 f, .slice a n c] 29)) w.heap.size #[.int .i64 f, .slice a n c] 29 ∧ Below w.heap.size w (w.alloc (.cells #[.int .i64 f, .slice a n c] 29))) := ⟨K.out.alloc _, Boxed.new _ _ _, (Below.refl _ _).alloc (Nat.le_refl _) _⟩
  go_enter Try.func21, Try.ntmps21
  go_wp2_with fail
  refine (A1'.out _ X.out.1).mono ?_
  rintro e w1 ⟨rfl, q⟩
  have X1 : Hid (IzAt w1 a r.lists ∧ Boxed w1 w.heap.size #[.int .i64 f, .slice a n c] 29 ∧ Below w.heap.size w w1) := ⟨X.out.1.below q, X.out.2.1.below X.out.2.1.under q, X.out.2.2.trans (q.mono X.out.2.2.size)⟩
  clear q X
  cases ok
  · go_wp2
    go_ret
    exact ⟨ret_num (by rw [Hv.out]; rfl), X1.out.2.2⟩
  have c0 : w1.cell? ⟨w.heap.size, 0, none⟩ = some (.int .i64 f) := X1.out.2.1.cell 0 rfl
  have c1 : w1.cell? ⟨w.heap.size, 1, none⟩ = some (.slice a n c) := X1.out.2.1.cell 1 rfl
  go_wp2_with fail
  refine (A2'.out _ X1.out.1).mono ?_
  rintro e w2 ⟨rfl, q⟩
  have X2 : Hid (Below w.heap.size w w2) := X1.out.2.2.trans (q.mono X1.out.2.2.size)
  clear q
  go_wp2
  go_ret
  exact ⟨ret_num (by rw [Hv.out]; rfl), X2.out⟩

theorem wSum_in {l : List It} (h : ∀ x ∈ l, x.ok = true) : ∀ k, k ≤ l.length → 0 ≤ wSum l k ∧ wSum l k ≤ 100000 * (k : Int) := by
  intro k
  induction k with
  | zero => intro _; rw [wSum_zero]; simp
  | succ k ih =>
    intro hk
    have h1 := ih (by omega)
    rw [wSum_succ (by omega)]
    have h2 := h (itAt l k) (by rw [itAt_lt (by omega)]; exact List.getElem_mem _)
    unfold It.ok at h2
    simp only [Bool.and_eq_true, inB_true] at h2
    push_cast
    omega
theorem row_ok {r : Rw} (h : r.ok = true) {i : Nat} (hi : i < r.lists.length) : ∀ x ∈ izAt r.lists i, x.ok = true := by
  intro x hx
  refine (Rw.ok_iff.1 h).2.2.1 x ?_
  unfold Rw.all
  rw [List.mem_flatten]
  exact ⟨_, by rw [izAt_lt hi] at hx ⊢; exact List.getElem_mem hi, hx⟩

set_option maxHeartbeats 3200000 in
set_option maxRecDepth 100000 in
theorem specWeight (r : Rw) (v : Value) (row : Int) (w : World) (hB : r.big ≤ 1048576) (h : Hid (RwAt w v r)) :
    Calls Try.prog 23 #[v, .int .i64 row] w fun e w' => e = .returned (.int .i64 (r.weight row)) ∧ Below w.heap.size w w' := by
  obtain ⟨a, c, rfl, k⟩ := h.out
  have K : Hid (IzAt w a r.lists) := k
  obtain ⟨hT, -, hin⟩ := Rw.small hB
  have A1 := fun w h => specRowsOk r a c w hB h
  have Hv : Hid (r.weight row = if r.ok = true ∧ 0 ≤ row ∧ row < r.lists.length then wSum (izAt r.lists row.toNat) (izAt r.lists row.toNat).length else -1) := rfl
  have Hrow : Hid (∀ i, i < r.lists.length → r.ok = true → ∀ k, k ≤ (izAt r.lists i).length → 0 ≤ wSum (izAt r.lists i) k ∧ wSum (izAt r.lists i) k ≤ 100000 * (k : Int)) := fun i hi ho => wSum_in (row_ok ho hi)
  have Hin : Hid (∀ k, k < r.lists.length → (izAt r.lists k).length ≤ 1048576) := hin
  generalize r.weight row = v at Hv ⊢
  generalize r.ok = ok at A1 Hv Hrow
  unfold Rw.val at A1 ⊢
  obtain ⟨n, hn⟩ : ∃ n, r.lists.length = n := ⟨_, rfl⟩
  rw [hn] at A1 Hv Hrow Hin hT ⊢
  have Hn : Hid (r.lists.length = n) := hn
  generalize r.most = f at A1 ⊢
  have A1' : Hid _ := A1
  clear A1 h k hB hn hin
  have X : Hid (IzAt (w.alloc (.cells #[.int .i64 f, .slice a n c] 29)) a r.lists ∧ Boxed (w.alloc (.cells #[.int .i64 f, .slice a n c] 29)) w.heap.size #[.int .i64 f, .slice a n c] 29 ∧ Below w.heap.size w (w.alloc (.cells #[.int .i64 f, .slice a n c] 29))) := ⟨K.out.alloc _, Boxed.new _ _ _, (Below.refl _ _).alloc (Nat.le_refl _) _⟩
  go_enter Try.func23, Try.ntmps23
  go_wp2_with fail
  refine (A1'.out _ X.out.1).mono ?_
  rintro e w1 ⟨rfl, q⟩
  have X1 : Hid (IzAt w1 a r.lists ∧ Boxed w1 w.heap.size #[.int .i64 f, .slice a n c] 29 ∧ Below w.heap.size w w1) := ⟨X.out.1.below q, X.out.2.1.below X.out.2.1.under q, X.out.2.2.trans (q.mono X.out.2.2.size)⟩
  clear q X A1'
  have c1 : w1.cell? ⟨w.heap.size, 1, none⟩ = some (.slice a n c) := X1.out.2.1.cell 1 rfl
  cases ok
  · go_wp2
    go_ret
    exact ⟨ret_num (by rw [Hv.out]; simp), X1.out.2.2⟩
  by_cases h0 : row < 0
  · go_wp2
    go_ret
    exact ⟨ret_num (by rw [Hv.out, if_neg (by omega)]), X1.out.2.2⟩
  by_cases h1 : (n : Int) ≤ row
  · go_wp2
    go_ret
    exact ⟨ret_num (by rw [Hv.out, if_neg (by omega)]), X1.out.2.2⟩
  obtain ⟨j, rfl⟩ := Int.eq_ofNat_of_zero_le (show 0 ≤ row by omega)
  have hj : j < n := by omega
  have hjl : j < r.lists.length := by rw [Hn.out]; exact hj
  have Hw := Hrow.out j hj rfl
  have hm := Hin.out j hj
  have Hv2 : Hid (v = wSum (izAt r.lists j) (izAt r.lists j).length) := by
    show v = _
    rw [Hv.out, if_pos ⟨rfl, by omega, by omega⟩]
    simp
  obtain ⟨b, off, ak, ck, ha, hb, hc, hr, -⟩ := X1.out.1 j hjl
  subst ha
  have Hs : Hid (∀ k, k < (izAt r.lists j).length → wSum (izAt r.lists j) (k + 1) = wSum (izAt r.lists j) k + (itAt (izAt r.lists j) k).size) := fun k hk => wSum_succ hk
  have Hz : Hid (wSum (izAt r.lists j) 0 = 0) := wSum_zero _
  generalize izAt r.lists j = l at Hw hm Hv2 hc hr Hs Hz
  obtain ⟨m, hml⟩ : ∃ m, l.length = m := ⟨_, rfl⟩
  rw [hml] at Hw hm Hv2 hc Hs
  have Hml : Hid (l.length = m) := hml
  have Hr : Hid (ItsAt w1 ak l) := hr
  have HW : Hid _ := Hw
  clear Hw hr hml Hv Hrow Hin
  have h1' : ¬ (n : Int) ≤ (j : Int) := h1
  have h0' : ¬ (j : Int) < 0 := h0
  go_wp2
  go_loop [5, 6] (fun s i => ∃ (k : Nat) (q : Int), k ≤ m ∧ i = .int .i64 k ∧ s = .int .i64 q ∧ Hid (q = wSum l k)) (fun _ i => m - (intOf i).toNat)
  case atStart => exact ⟨0, 0, Nat.zero_le _, rfl, rfl, Hz.out.symm⟩
  case round =>
    obtain ⟨k, q, hk, rfl, rfl, Hq⟩ := hrel
    by_cases hlt : k < m
    · have hkl : k < l.length := by rw [Hml.out]; exact hlt
      obtain ⟨b2, off2, ha2, hb2, -⟩ := Hr.out k hkl
      subst ha2
      obtain ⟨-, e1, -⟩ := Hr.out.cells hkl
      have hs := Hs.out k hlt
      have g0 := HW.out k hk
      have g1 := HW.out (k + 1) (by omega)
      rw [hs] at g1
      generalize itAt l k = x at e1 hs g1
      obtain ⟨x0, x1, x2⟩ := x
      simp only [] at e1 hs g1
      have q0 : -9223372036854775808 ≤ q + x1 := by have := Hq.out; omega
      have q1 : q + x1 ≤ 9223372036854775807 := by have := Hq.out; push_cast at g1; omega
      have Hs2 : Hid (wSum l (k + 1) = wSum l k + x1) := hs
      clear hs g0 g1
      go_wp2
      go_round
      case rel =>
        refine ⟨k + 1, q + x1, by omega, by go_num, by go_num, ?_⟩
        show q + x1 = wSum l (k + 1)
        rw [Hs2.out, Hq.out]
      case measure => simp [intOf]; omega
    · obtain rfl : k = m := by omega
      go_wp2
      go_ret
      exact ⟨ret_num (by rw [Hv2.out, Hq.out]), X1.out.2.2⟩
end Go.Proofs.Ytdcekimldgjliaa

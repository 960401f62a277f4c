/-
  The walks of the program's Count and Weight. By the verifier.
-/
import Derived.Test.YtleokmnhhhhcjaaRwOkI
import Derived.Test.YtleokmnhhhhcjaaRwCntS
namespace Go.Proofs.Ytleokmnhhhhcjaa
open Go.RowKit

theorem implRowsOkV (r : Rw) (v : Value) (w : World) (hB : r.big ≤ 1048576) (h : Hid (RwAt w v r)) :
    Calls Try.prog 11 #[v] w fun e w' => e = .returned (.bool r.ok) ∧ Below w.heap.size w w' := by
  obtain ⟨a, c, rfl, k⟩ := h.out
  exact implRowsOk r a c w hB k

set_option maxHeartbeats 1600000 in
theorem implCount (r : Rw) (v : Value) (w : World) (hB : r.big ≤ 1048576) (h : Hid (RwAt w v r)) :
    Calls Try.prog 13 #[v] w fun e w' => e = .returned (.int .i64 r.count) ∧ Below w.heap.size w w' := by
  obtain ⟨a, c, rfl, k⟩ := h.out
  have K : Hid (IzAt w a r.lists) := k
  have A1 := fun w h => implRowsOk r a c w hB h
  have A2 := fun w h => implCountL r a c w hB h
  have Hv : Hid (r.count = if r.ok = true then (izSum r.lists r.lists.length : Int) else -1) := rfl
  generalize r.count = v at Hv ⊢
  generalize r.ok = ok at A1 Hv
  generalize (izSum r.lists r.lists.length : Int) = N at A2 Hv
  unfold Rw.val at A1 A2 ⊢
  generalize r.lists.length = n at A1 A2 ⊢
  generalize r.most = f at A1 A2 ⊢
  have A1' : Hid _ := A1
  have A2' : Hid _ := A2
  clear A1 A2 h k hB
  have X : Hid (IzAt (w.alloc (.cells #[.int .i64 f, .slice a n c] 26)) a r.lists ∧ Boxed (w.alloc (.cells #[.int .i64 f, .slice a n c] 26)) w.heap.size #[.int .i64 f, .slice a n c] 26 ∧ Below w.heap.size w (w.alloc (.cells #[.int .i64 f, .slice a n c] 26))) := ⟨K.out.alloc _, Boxed.new _ _ _, (Below.refl _ _).alloc (Nat.le_refl _) _⟩
  go_enter Try.func13, Try.ntmps13
  go_wp2_with fail
  refine (A1'.out _ X.out.1).mono ?_
  rintro e w1 ⟨rfl, q⟩
  have X1 : Hid (IzAt w1 a r.lists ∧ Boxed w1 w.heap.size #[.int .i64 f, .slice a n c] 26 ∧ Below w.heap.size w w1) := ⟨X.out.1.below q, X.out.2.1.below X.out.2.1.under q, X.out.2.2.trans (q.mono X.out.2.2.size)⟩
  clear q X
  cases ok
  · go_wp2
    go_ret
    exact ⟨ret_num (by rw [Hv.out]; rfl), X1.out.2.2⟩
  have c0 : w1.cell? ⟨w.heap.size, 0, none⟩ = some (.int .i64 f) := X1.out.2.1.cell 0 rfl
  have c1 : w1.cell? ⟨w.heap.size, 1, none⟩ = some (.slice a n c) := X1.out.2.1.cell 1 rfl
  go_wp2_with fail
  refine (A2'.out _ X1.out.1).mono ?_
  rintro e w2 ⟨rfl, q⟩
  have X2 : Hid (Below w.heap.size w w2) := X1.out.2.2.trans (q.mono X1.out.2.2.size)
  clear q
  go_wp2
  go_ret
  exact ⟨ret_num (by rw [Hv.out]; rfl), X2.out⟩

set_option maxHeartbeats 3200000 in
set_option maxRecDepth 100000 in
theorem implWeight (r : Rw) (v : Value) (row : Int) (w : World) (hB : r.big ≤ 1048576) (h : Hid (RwAt w v r)) :
    Calls Try.prog 15 #[v, .int .i64 row] w fun e w' => e = .returned (.int .i64 (r.weight row)) ∧ Below w.heap.size w w' := by
  obtain ⟨a, c, rfl, k⟩ := h.out
  have K : Hid (IzAt w a r.lists) := k
  obtain ⟨hT, -, hin⟩ := Rw.small hB
  have A1 := fun w h => implRowsOk r a c w hB h
  have A2 := fun w => implHasRow r a c row w hT
  have Hv : Hid (r.weight row = if r.ok = true ∧ 0 ≤ row ∧ row < r.lists.length then wSum (izAt r.lists row.toNat) (izAt r.lists row.toNat).length else -1) := rfl
  have Hrow : Hid (∀ i, i < r.lists.length → r.ok = true → ∀ k, k ≤ (izAt r.lists i).length → 0 ≤ wSum (izAt r.lists i) k ∧ wSum (izAt r.lists i) k ≤ 100000 * (k : Int)) := fun i hi ho => wSum_in (row_ok ho hi)
  have Hin : Hid (∀ k, k < r.lists.length → (izAt r.lists k).length ≤ 1048576) := hin
  generalize r.weight row = v at Hv ⊢
  generalize r.ok = ok at A1 Hv Hrow
  unfold Rw.val at A1 A2 ⊢
  obtain ⟨n, hn⟩ : ∃ n, r.lists.length = n := ⟨_, rfl⟩
  rw [hn] at A1 A2 Hv Hrow Hin hT ⊢
  have Hn : Hid (r.lists.length = n) := hn
  generalize r.most = f at A1 A2 ⊢
  have A1' : Hid _ := A1
  clear A1 h k hB hn hin
  have X : Hid (IzAt (w.alloc (.cells #[.int .i64 f, .slice a n c] 26)) a r.lists ∧ Boxed (w.alloc (.cells #[.int .i64 f, .slice a n c] 26)) w.heap.size #[.int .i64 f, .slice a n c] 26 ∧ Below w.heap.size w (w.alloc (.cells #[.int .i64 f, .slice a n c] 26))) := ⟨K.out.alloc _, Boxed.new _ _ _, (Below.refl _ _).alloc (Nat.le_refl _) _⟩
  obtain ⟨hv, hhv⟩ : ∃ z, (decide (0 ≤ row) && decide (row < (n : Int))) = z := ⟨_, rfl⟩
  rw [hhv] at A2
  have Hh : Hid ((decide (0 ≤ row) && decide (row < (n : Int))) = hv) := hhv
  have A2' : Hid _ := A2
  clear A2 hhv
  go_enter Try.func15, Try.ntmps15
  go_wp2_with fail
  refine (A1'.out _ X.out.1).mono ?_
  rintro e w1 ⟨rfl, q⟩
  have X1 : Hid (IzAt w1 a r.lists ∧ Boxed w1 w.heap.size #[.int .i64 f, .slice a n c] 26 ∧ Below w.heap.size w w1) := ⟨X.out.1.below q, X.out.2.1.below X.out.2.1.under q, X.out.2.2.trans (q.mono X.out.2.2.size)⟩
  clear q X A1'
  have c0 : w1.cell? ⟨w.heap.size, 0, none⟩ = some (.int .i64 f) := X1.out.2.1.cell 0 rfl
  have c1 : w1.cell? ⟨w.heap.size, 1, none⟩ = some (.slice a n c) := X1.out.2.1.cell 1 rfl
  cases ok
  · go_wp2
    go_ret
    exact ⟨ret_num (by rw [Hv.out]; simp), X1.out.2.2⟩
  go_wp2_with fail
  refine (A2'.out _).mono ?_
  rintro e w2 ⟨rfl, q⟩
  have X2 : Hid (IzAt w2 a r.lists ∧ Boxed w2 w.heap.size #[.int .i64 f, .slice a n c] 26 ∧ Below w.heap.size w w2) := ⟨X1.out.1.below q, X1.out.2.1.below X1.out.2.1.under q, X1.out.2.2.trans (q.mono X1.out.2.2.size)⟩
  clear q X1 c0 c1 A2'
  cases hv
  · have hno : ¬ (0 ≤ row ∧ row < (n : Int)) := by
      have := Hh.out
      rw [Bool.and_eq_false_iff, decide_eq_false_iff_not, decide_eq_false_iff_not] at this
      omega
    go_wp2
    go_ret
    exact ⟨ret_num (by rw [Hv.out, if_neg (by omega)]), X2.out.2.2⟩
  have hyes : 0 ≤ row ∧ row < (n : Int) := by
    have := Hh.out
    rwa [Bool.and_eq_true, decide_eq_true_iff, decide_eq_true_iff] at this
  obtain ⟨j, rfl⟩ := Int.eq_ofNat_of_zero_le hyes.1
  have hj : j < n := by omega
  have hjl : j < r.lists.length := by rw [Hn.out]; exact hj
  have Hw := Hrow.out j hj (by first | exact trivial | exact rfl)
  have hm := Hin.out j hj
  have Hv2 : Hid (v = wSum (izAt r.lists j) (izAt r.lists j).length) := by
    show v = _
    rw [Hv.out, if_pos ⟨by first | exact trivial | exact rfl, by omega, by omega⟩]
    simp
  obtain ⟨b, off, ak, ck, ha, hb, hc, hr, -⟩ := X2.out.1 j hjl
  subst ha
  have Hs : Hid (∀ k, k < (izAt r.lists j).length → wSum (izAt r.lists j) (k + 1) = wSum (izAt r.lists j) k + (itAt (izAt r.lists j) k).size) := fun k hk => wSum_succ hk
  have Hz : Hid (wSum (izAt r.lists j) 0 = 0) := wSum_zero _
  generalize izAt r.lists j = l at Hw hm Hv2 hc hr Hs Hz
  obtain ⟨m, hml⟩ : ∃ m, l.length = m := ⟨_, rfl⟩
  rw [hml] at Hw hm Hv2 hc Hs
  have Hml : Hid (l.length = m) := hml
  have Hr : Hid (ItsAt w2 ak l) := hr
  have HW : Hid _ := Hw
  clear Hw hr hml Hv Hrow Hin Hh hyes
  have c1 : w2.cell? ⟨w.heap.size, 1, none⟩ = some (.slice (some ⟨b, off, none⟩) n c) := X2.out.2.1.cell 1 rfl
  have hjn : (j : Int) < (n : Int) := by omega
  go_wp2
  clear c1 hc
  go_loopw [5, 23] (fun s i wr => ∃ (k : Nat) (q : Int), k ≤ m ∧ i = .int .i64 k ∧ s = .int .i64 q ∧ Hid (q = wSum l k) ∧ Hid (Below w2.heap.size w2 wr)) (fun _ i _ => m - (intOf i).toNat)
  case atStart => exact ⟨0, 0, Nat.zero_le _, rfl, rfl, Hz.out.symm, Below.refl _ _⟩
  case round =>
    obtain ⟨k, q, hk, rfl, rfl, Hq, Hb⟩ := hrel
    by_cases hlt : k < m
    · have hkl : k < l.length := by rw [Hml.out]; exact hlt
      have R := Hr.out.below Hb.out
      obtain ⟨b2, off2, ha2, hb2, -⟩ := R k hkl
      subst ha2
      obtain ⟨e0, e1, e2⟩ := R.cells hkl
      have hs := Hs.out k hlt
      have g0 := HW.out k hk
      have g1 := HW.out (k + 1) (by omega)
      rw [hs] at g1
      generalize itAt l k = x at e0 e1 e2 hs g1
      obtain ⟨x0, x1, x2⟩ := x
      simp only [] at e0 e1 e2 hs g1
      have q0 : -9223372036854775808 ≤ q + x1 := by have := Hq.out; omega
      have q1 : q + x1 ≤ 9223372036854775807 := by have := Hq.out; push_cast at g1; omega
      have Hs2 : Hid (wSum l (k + 1) = wSum l k + x1) := hs
      have hlt' : (k : Int) < (m : Int) := by omega
      have B3 : Hid (Below w2.heap.size w2 (wr.alloc (.cells #[.int .i64 x0, .int .i64 x1, .int .i64 x2] 28))) := Hb.out.alloc Hb.out.size _
      clear hs g0 g1 R
      go_wp2
      go_roundw
      case rel =>
        refine ⟨k + 1, q + x1, by omega, by go_num, by go_num, ?_, B3⟩
        show q + x1 = wSum l (k + 1)
        rw [Hs2.out, Hq.out]
      case measure => simp [intOf]; omega
    · obtain rfl : k = m := by omega
      go_wp2
      go_ret
      exact ⟨ret_num (by rw [Hv2.out, Hq.out]), X2.out.2.2.trans (Hb.out.mono X2.out.2.2.size)⟩
end Go.Proofs.Ytleokmnhhhhcjaa

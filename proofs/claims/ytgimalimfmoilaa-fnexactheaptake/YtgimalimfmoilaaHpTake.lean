/-
  The walks of container/heap's Pop, of the program's take and HeapTake. By the verifier.
-/
import Derived.Test.YtgimalimfmoilaaM7HpPop
import Derived.Test.YtgimalimfmoilaaM11HpPutI
import Derived.Test.YtgimalimfmoilaaStepRow
namespace Go.Proofs.Ytgimalimfmoilaa
open Go.RowKit Go.Shelf

section
variable {base g B : Nat} {w w1 w2 : World}
theorem Kq.step (h : Kq base g B w w1) (k : Kp base g w1 w2) : Kq base g B w w2 :=
  ⟨h.1.trans k.1, fun q q1 q2 q3 => (k.2 q q1 (Nat.lt_of_lt_of_le q3 h.1.size)).trans (h.2 q q1 q2 q3)⟩
theorem Kq.trans (h : Kq base g B w w1) (k : Kq base g B w1 w2) : Kq base g B w w2 :=
  ⟨h.1.trans k.1, fun q q1 q2 q3 => (k.2 q q1 q2 (Nat.lt_of_lt_of_le q3 h.1.size)).trans (h.2 q q1 q2 q3)⟩
theorem Kq.of (k : Kp base g w w1) : Kq base g B w w1 := ⟨k.1, fun q q1 _ q3 => k.2 q q1 q3⟩
theorem Kq.from (h : Kq base g B w1 w2) (b : Below w.heap.size w w1) (hb : base ≤ w.heap.size) : Kq base g B w w2 :=
  ⟨(b.mono hb).trans h.1, fun k k1 k2 k3 => (h.2 k k1 k2 (Nat.lt_of_lt_of_le k3 b.size)).trans (b.block k k3)⟩
end
set_option maxHeartbeats 1600000 in
theorem implHeapPop (base B g cap : Nat) (l : List Du) (w : World) (hT : l.length ≤ 1048576) (h0 : 0 < l.length) (h : HpV base B g cap l w) :
    Calls Try.prog 71 #[.iface 91 (.pointer (some ⟨B, 0, none⟩))] w fun e w' => e = .returned (.iface 33 (duAt l 0).val) ∧ HpV base B g cap (htake l) w' ∧ Kq base g B w w' := by
  obtain ⟨n, hn⟩ : ∃ n, l.length = n + 1 := ⟨l.length - 1, by omega⟩
  have hml : (hmoved l).length = n := by rw [hmoved_len, hn]; rfl
  have C2 := fun (_ : Nat) => implSwap g cap l 0 n base w (by omega) (by omega) h.row
  rw [swap_last hn, hn] at C2
  have C3 : Hid (∀ w1, HpV base B g cap (hmoved l ++ [duAt l 0]) w1 → Calls Try.prog 85 #[.iface 91 (.pointer (some ⟨B, 0, none⟩)), .int .i64 0, .int .i64 (n : Int)] w1 fun e w' => (∃ b, e = .returned (.bool b)) ∧ HpV base B g cap (htake l ++ [duAt l 0]) w' ∧ Kp base g w1 w') := fun w1 hh => by
    have := implDown base B g cap (hmoved l) (duAt l 0) n w1 hml (by omega) hh
    have e : htake l = down n (hmoved l) 0 := by unfold htake; rw [hn]; rfl
    rw [e]
    exact this
  have C4 : Hid (∀ w1, HpV base B g cap (htake l ++ [duAt l 0]) w1 → Calls Try.prog 127 #[.pointer (some ⟨B, 0, none⟩)] w1 fun e w' => e = .returned (.iface 33 (duAt l 0).val) ∧ HpV base B g cap (htake l) w' ∧ Kq base g B w1 w') := fun w1 hh => implPop base B g cap (htake l) (duAt l 0) w1 (by rw [htake_len]; omega) hh
  have hm1 := m_Len h.cell
  have hm2 := m_Swap h.cell
  rw [hn] at hm1 hm2
  have hm4 := m_Pop (.pointer (some ⟨B, 0, none⟩))
  have S1 : Hid (∀ w1, DuRow base w1 (.slice (some ⟨g, 0, none⟩) (hmoved l ++ [duAt l 0]).length cap) (hmoved l ++ [duAt l 0]) → Below g w w1 → (∀ k, k ≠ g → w1.heap[k]? = w.heap[k]?) → HpV base B g cap (hmoved l ++ [duAt l 0]) w1 ∧ Kp base g w w1) := fun w1 q1 q2 q3 =>
    ⟨h.to q1 (by rw [app_len hml, hn]) q3, (Kp.refl base g w).other h.lt.1 q2 q3⟩
  have C2' : Hid _ := C2
  have hw1 : ((n + 1 : Nat) : Int) - 1 = (n : Int) := by omega
  rw [hn] at hT
  clear C2 h h0 hn hml
  generalize (duAt l 0).val = dv at C4 ⊢
  go_enter Try.func71, Try.ntmps71
  go_wp2_with fail
  refine (implLen _ _ _ _).mono ?_
  rintro e w0 ⟨rfl, rfl⟩
  go_wp2_with fail
  refine (C2'.out 0).mono ?_
  rintro e w1 ⟨rfl, q1, q2, q3⟩
  have X1 := S1.out w1 q1 q2 q3
  have X1' : Hid _ := X1
  clear q1 q2 q3 hm1 hm2 C2' S1 X1
  go_wp2_with fail
  refine (C3.out _ X1'.out.1).mono ?_
  rintro e w2 ⟨⟨b, rfl⟩, q1, q2⟩
  have X2 : Hid (HpV base B g cap (htake l ++ [duAt l 0]) w2 ∧ Kq base g B w0 w2) := ⟨q1, (Kq.of X1'.out.2).step q2⟩
  clear q1 q2 C3
  go_wp2_with fail
  refine (C4.out _ X2.out.1).mono ?_
  rintro e w3 ⟨rfl, q1, q2⟩
  have X3 : Hid (HpV base B g cap (htake l) w3 ∧ Kq base g B w0 w3) := ⟨q1, X2.out.2.trans q2⟩
  clear q1 q2 C4
  go_wp2
  go_ret
  exact ⟨rfl, X3.out⟩

set_option maxHeartbeats 1600000 in
theorem implTakeM (base B g cap : Nat) (l : List Du) (w : World) (hT : l.length ≤ 1048576) (h0 : 0 < l.length) (h : HpV base B g cap l w) :
    Calls Try.prog 45 #[.pointer (some ⟨B, 0, none⟩)] w fun e w' => e = .returned (duAt l 0).val ∧ HpV base B g cap (htake l) w' ∧ Kq base g B w w' := by
  have b : Below w.heap.size w (w.alloc (.cells #[.int .i64 0, .int .i64 0] 33)) := (Below.refl _ _).alloc (Nat.le_refl _) _
  have hs : base ≤ w.heap.size := Nat.le_trans h.lt.1 (Nat.le_of_lt h.lt.2)
  have C := fun (_ : Nat) => implHeapPop base B g cap l _ hT h0 (h.below b)
  have hgB : g < w.heap.size ∧ B < w.heap.size := ⟨h.lt.2, h.box.under⟩
  have C' : Hid _ := C
  have hA := asDue (duAt l 0).val
  have F : Hid (∀ w2, HpV base B g cap (htake l) w2 → Kq base g B (w.alloc (.cells #[.int .i64 0, .int .i64 0] 33)) w2 → Boxed w2 w.heap.size #[.int .i64 0, .int .i64 0] 33 ∧ ∀ cs, HpV base B g cap (htake l) (w2.setRow w.heap.size cs) ∧ Kq base g B w (w2.setRow w.heap.size cs)) := fun w2 q1 q2 => by
    have o : ∀ (cs : Array Value) (k : Nat), k ≠ w.heap.size → (w2.setRow w.heap.size cs).heap[k]? = w2.heap[k]? := fun cs k hk => setRow_other _ _ _ _ hk
    refine ⟨?_, fun cs => ⟨⟨?_, ?_, q1.lo⟩, ?_, ?_⟩⟩
    · unfold Boxed
      rw [q2.2 w.heap.size (by omega) (by omega) (by simp)]
      exact Boxed.new w _ _
    · unfold Boxed
      rw [o cs B (by omega)]
      exact q1.box
    · refine q1.row.carry fun k hk _ => o cs k ?_
      have : some g = some k := hk
      cases this
      omega
    · exact below_setRow ((b.mono hs).trans q2.1) hs _
    · intro k k1 k2 k3
      rw [o cs k (by omega)]
      exact (q2.from b hs).2 k k1 k2 k3
  clear C b h hT h0 hs hgB
  obtain ⟨t, i⟩ : ∃ x : Du, x = duAt l 0 := ⟨_, rfl⟩
  generalize htake l = hl at C' F ⊢
  generalize duAt l 0 = dd at C' hA ⊢
  obtain ⟨t0, i0⟩ := dd
  simp only [Du.val] at C' hA ⊢
  go_enter Try.func45, Try.ntmps45
  go_wp2_with fail
  refine (C'.out 0).mono ?_
  rintro e w2 ⟨rfl, q1, q2⟩
  have X := F.out w2 q1 q2
  have X' : Hid _ := X
  clear q1 q2 X F C'
  go_wp2_with (refine wpList_store_row rfl 33 (.tmp 2) (.tmp 6) rfl w.heap.size #[.int .i64 t0, .int .i64 i0] rfl rfl _ _ X'.out.1 (by kernel_rfl) rfl (by simp [Value.oneCell']) ?_)
  exact bodyPost_ret (results_cell_row Try.results45 _ _ w.heap.size _ _ _ _ rfl (setRow_heap _ w.heap.size _ _ _ _ X'.out.1) Try.underlying33 rfl (by kernel_rfl)) rfl ⟨rfl, X'.out.2 _⟩
end Go.Proofs.Ytgimalimfmoilaa

/-
  A record of a number and a list (Fairness): the laws' copies, sizes, comparisons, marks. By the verifier, by program.
-/
import Derived.Test.YtllmkolchgmjoaaFsPlain
import Derived.Test.YtllmkolchgmjoaaFwTo
import Derived.Test.YtllmkolchgmjoaaFwMark
import Derived.Test.YtllmkolchgmjoaaSpan
import Derived.Test.YtllmkolchgmjoaaStepRow
import Derived.Laws.ResultCell
import Derived.Laws.CopyOwn
namespace Go.Proofs.Ytllmkolchgmjoaa
open Go.RowKit

/-- With its numbers put in. -/
def Fs.mk' (s : Int) (r : Fs) : Fs := ⟨r.now, fwMks s r.flows r.flows.length⟩
set_option maxHeartbeats 1600000 in
theorem szFss (L : Int) (h0 : 0 ≤ L) (h1 : L ≤ 1048576) (r : Fs) (a : Option Addr) (c : Nat) (w : World) (hl : (r.flows.length : Int) ≤ 9223372036854775807) (hin : Hid (∀ k, k < r.flows.length → ((fwAt r.flows k).sizes.length : Int) ≤ 9223372036854775807)) (h : Hid (FwsAt w a r.flows)) :
    Calls Try.prog 25 #[r.val a c, .int .i64 L] w fun e w' => e = .returned (.int .i64 (if L - (r.big : Nat) < 0 then -1 else L - (r.big : Nat))) ∧ Below w.heap.size w w' := by
  have C := fun w h => szFws L h0 h1 a c r.flows w hl hin h
  rw [show r.flows.length + fwSum r.flows r.flows.length = r.big from rfl] at C
  generalize r.big = B at C ⊢
  unfold Fs.val
  have X : Hid (FwsAt (w.alloc (.cells #[.int .i64 r.now, .slice a r.flows.length c] 46)) a r.flows ∧ Below w.heap.size w (w.alloc (.cells #[.int .i64 r.now, .slice a r.flows.length c] 46))) := ⟨h.out.alloc _, (Below.refl _ _).alloc (Nat.le_refl _) _⟩
  generalize r.flows.length = n at C X ⊢
  generalize r.now = f at X ⊢
  have C' : Hid _ := C
  clear C
  by_cases hn : L - (B : Nat) < 0
  · rw [if_pos hn] at C' ⊢
    go_enter Try.func25, Try.ntmps25
    go_wp2_with fail
    refine (C'.out _ X.out.1).mono ?_
    rintro e w' ⟨rfl, qb⟩
    have X1 : Hid (Below w.heap.size w w') := X.out.2.trans (qb.mono X.out.2.size)
    clear qb
    go_wp2
    go_ret
    exact ⟨rfl, X1.out⟩
  · rw [if_neg hn] at C' ⊢
    have hn' : ¬ L - (B : Int) < 0 := hn
    go_enter Try.func25, Try.ntmps25
    go_wp2_with fail
    refine (C'.out _ X.out.1).mono ?_
    rintro e w' ⟨rfl, qb⟩
    have X1 : Hid (Below w.heap.size w w') := X.out.2.trans (qb.mono X.out.2.size)
    clear qb
    go_wp2
    go_ret
    exact ⟨rfl, X1.out⟩

set_option maxHeartbeats 1600000 in
set_option maxRecDepth 100000 in
theorem toFss (r : Fs) (a : Option Addr) (c : Nat) (w : World) (hB : r.big ≤ 1048576) (h : Hid (FwsAt w a r.flows)) :
    Calls Try.prog 26 #[r.val a c] w fun e w' => (∃ v, e = .returned v ∧ FsIn w.heap.size w'.heap.size w' v r) ∧ Below w.heap.size w w' := by
  obtain ⟨hT, -, hin⟩ := Fs.small hB
  have T := fun w h => toFws a c r.flows w hT hin h
  obtain ⟨f, l⟩ := r
  simp only [Fs.val] at T h ⊢
  clear hin hT hB
  obtain ⟨n, hn⟩ : ∃ n, l.length = n := ⟨_, rfl⟩
  have Hn : Hid (l.length = n) := hn
  rw [hn] at T ⊢
  clear hn
  have T' : Hid _ := T
  clear T
  obtain ⟨W, hW⟩ : ∃ W, W = ((w.alloc (.cells #[.int .i64 f, .slice a n c] 46)).alloc (.cells #[.int .i64 0, .slice none 0 0] 26)).alloc (.cells #[.int .i64 f, .slice none 0 0] 26) := ⟨_, rfl⟩
  have X : Hid (FwsAt W a l ∧ Below w.heap.size w W ∧ Boxed W (w.heap.size + 1) #[.int .i64 0, .slice none 0 0] 26 ∧ Boxed W (w.heap.size + 2) #[.int .i64 f, .slice none 0 0] 26 ∧ w.heap.size + 3 = W.heap.size) := by
    rw [hW]
    refine ⟨((h.out.alloc _).alloc _).alloc _, (((Below.refl _ _).alloc (Nat.le_refl _) _).alloc (by simp) _).alloc (by simp; omega) _, ?_, ?_, by simp⟩
    · have := (Boxed.new (w.alloc (.cells #[.int .i64 f, .slice a n c] 46)) #[.int .i64 0, .slice none 0 0] 26).more (.cells #[.int .i64 f, .slice none 0 0] 26)
      simpa using this
    · have := Boxed.new ((w.alloc (.cells #[.int .i64 f, .slice a n c] 46)).alloc (.cells #[.int .i64 0, .slice none 0 0] 26)) #[.int .i64 f, .slice none 0 0] 26
      simpa using this
  have HW : Hid (W = _) := hW
  clear hW h
  go_enter Try.func26, Try.ntmps26
  go_wp2_with fail
  rw [← HW.out]
  refine (T'.out _ X.out.1).mono ?_
  rintro e w1 ⟨g, rfl, q1, q2⟩
  have hz := X.out.2.2.2.2
  have X1 : Hid (Below w.heap.size w w1 ∧ Boxed w1 (w.heap.size + 1) #[.int .i64 0, .slice none 0 0] 26 ∧ Boxed w1 (w.heap.size + 2) #[.int .i64 f, .slice none 0 0] 26 ∧ FwsIn W.heap.size w1.heap.size w1 (.slice (some ⟨g, 0, none⟩) n n) l ∧ w.heap.size + 3 ≤ w1.heap.size ∧ w.heap.size + 3 = W.heap.size) :=
    ⟨X.out.2.1.trans (q2.mono X.out.2.1.size), X.out.2.2.1.below (by omega) q2, X.out.2.2.2.1.below (by omega) q2, q1, by have := q2.size; omega, hz⟩
  have X2 : Hid (Boxed (w1.setCell ⟨w.heap.size + 2, 1, none⟩ (.slice (some ⟨g, 0, none⟩) n n)) (w.heap.size + 1) #[.int .i64 0, .slice none 0 0] 26 ∧ Boxed (w1.setCell ⟨w.heap.size + 2, 1, none⟩ (.slice (some ⟨g, 0, none⟩) n n)) (w.heap.size + 2) #[.int .i64 f, .slice (some ⟨g, 0, none⟩) n n] 26) :=
    ⟨X1.out.2.1.far (by omega) _ _, X1.out.2.2.1.put 1 _⟩
  have d1 : w1.cell? ⟨w.heap.size + 2, 1, none⟩ = some (.slice none 0 0) := X1.out.2.2.1.cell 1 rfl
  have z1 := X1.out.2.2.1.ice 1
  clear q1 q2 X hz
  go_wp2_with (first | (refine wpList_load_row rfl 26 (.tmp 3) rfl (w.heap.size + 2) rfl _ _ _ _ X2.out.2 Try.underlying26 rfl (by kernel_rfl) ?_) | (refine wpList_store_row rfl 26 (.tmp 2) (.tmp 11) rfl (w.heap.size + 1) _ rfl rfl _ _ X2.out.1 (by kernel_rfl) rfl (by simp [Value.oneCell']) ?_))
  have hB : ∀ k, k ≠ w.heap.size + 1 → k ≠ w.heap.size + 2 → ((w1.setCell ⟨w.heap.size + 2, 1, none⟩ (.slice (some ⟨g, 0, none⟩) n n)).setRow (w.heap.size + 1) #[.int .i64 f, .slice (some ⟨g, 0, none⟩) n n]).heap[k]? = w1.heap[k]? := fun k h1 h2 => by
    rw [setRow_other _ _ _ _ h1]
    exact Below.heap_setCell _ _ _ _ h2
  have hS : ((w1.setCell ⟨w.heap.size + 2, 1, none⟩ (.slice (some ⟨g, 0, none⟩) n n)).setRow (w.heap.size + 1) #[.int .i64 f, .slice (some ⟨g, 0, none⟩) n n]).heap.size = w1.heap.size := by
    rw [size_setRow]
    simp [World.setCell]
  refine bodyPost_ret (results_cell_row Try.results26 _ _ (w.heap.size + 1) _ _ _ _ rfl (setRow_heap _ (w.heap.size + 1) _ _ _ _ X2.out.1) Try.underlying26 rfl (by kernel_rfl)) rfl ⟨⟨_, rfl, some ⟨g, 0, none⟩, n, by show _ = Value.agg #[_, .slice _ l.length _]; rw [Hn.out], ?_⟩, below_setRow (X1.out.1.setCell (by show w.heap.size ≤ w.heap.size + 2; omega) _) (by omega) _⟩
  rw [hS]
  show FwsIn _ _ _ (.slice _ l.length _) l
  rw [Hn.out]
  have q := X1.out.2.2.2.1
  have e := X1.out.2.2.2.2.2
  exact (q.keep (by rw [hS]; exact Nat.le_refl _) fun k h1 h2 => hB k (by omega) (by omega)).wide (by omega) (Nat.le_refl _) (by rw [hS]; exact Nat.le_refl _)

set_option maxHeartbeats 1600000 in
theorem eqFss (v1 v2 : Value) (r : Fs) (w : World) (hB : r.big ≤ 1048576) (h1 : Hid (FsAt w v1 r)) (h2 : Hid (FsAt w v2 r)) :
    Calls Try.prog 27 #[v1, v2] w fun e w' => e = .returned (.bool true) ∧ Below w.heap.size w w' := by
  obtain ⟨a1, c1, rfl, k1⟩ := h1.out
  obtain ⟨a2, c2, rfl, k2⟩ := h2.out
  obtain ⟨hT, -, hin⟩ := Fs.small hB
  have E := fun w h1 h2 => eqFws a1 a2 c1 c2 r.flows w hT hin h1 h2
  clear h1 h2 hin hT hB
  obtain ⟨f, l⟩ := r
  simp only [Fs.val] at E k1 k2 ⊢
  generalize l.length = n at E ⊢
  have E' : Hid _ := E
  clear E
  have X : Hid (FwsAt ((w.alloc (.cells #[.int .i64 f, .slice a1 n c1] 26)).alloc (.cells #[.int .i64 f, .slice a2 n c2] 26)) a1 l ∧ FwsAt ((w.alloc (.cells #[.int .i64 f, .slice a1 n c1] 26)).alloc (.cells #[.int .i64 f, .slice a2 n c2] 26)) a2 l ∧ Below w.heap.size w ((w.alloc (.cells #[.int .i64 f, .slice a1 n c1] 26)).alloc (.cells #[.int .i64 f, .slice a2 n c2] 26))) :=
    ⟨(k1.alloc _).alloc _, (k2.alloc _).alloc _, ((Below.refl _ _).alloc (Nat.le_refl _) _).alloc (by simp) _⟩
  clear k1 k2
  go_enter Try.func27, Try.ntmps27
  go_wp2_with fail
  refine (E'.out _ X.out.1 X.out.2.1).mono ?_
  rintro e w1 ⟨rfl, q⟩
  have X1 : Hid (Below w.heap.size w w1) := X.out.2.2.trans (q.mono X.out.2.2.size)
  clear q
  go_wp2
  go_ret
  exact ⟨rfl, X1.out⟩

set_option maxHeartbeats 1600000 in
theorem markFss (s : Int) (s0 : 0 ≤ s) (s1 : s ≤ 549755813888) (b t : Nat) (v : Value) (r : Fs) (w : World) (hB : r.big ≤ 1048576) (H : Hid (FsIn b t w v r)) :
    Calls Try.prog 28 #[v, .int .i64 s] w fun e w' => e = .returned (.int .i64 (s + 2 * (r.flows.length : Int) + (fwSum r.flows r.flows.length : Int))) ∧ FsIn b t w' v (r.mk' s) ∧ Span b t w w' := by
  obtain ⟨a, c, rfl, K⟩ := H.out
  clear H
  obtain ⟨hT, hS, -⟩ := Fs.small hB
  have C := fun w h => markFws s s0 s1 b t (.slice a r.flows.length c) r.flows hT hS w h
  have Fin : Hid (∀ w', FwsIn b t w' (.slice a r.flows.length c) (fwMks s r.flows r.flows.length) → FsIn b t w' (r.val a c) (r.mk' s)) := fun w' h => ⟨a, c, by simp [Fs.val, Fs.mk', fwMks_length], by simp only [Fs.mk', fwMks_length]; exact h⟩
  generalize r.mk' s = r' at Fin ⊢
  generalize s + 2 * (r.flows.length : Int) + (fwSum r.flows r.flows.length : Int) = N at C ⊢
  obtain ⟨f, l⟩ := r
  simp only [Fs.val] at C Fin K ⊢
  generalize fwMks s l l.length = l' at C Fin
  generalize l.length = n at C Fin K ⊢
  have C' : Hid _ := C
  have X : Hid (FwsIn b t (w.alloc (.cells #[.int .i64 f, .slice a n c] 26)) (.slice a n c) l ∧ Below w.heap.size w (w.alloc (.cells #[.int .i64 f, .slice a n c] 26))) := ⟨K.below ((Below.refl _ _).alloc (Nat.le_refl _) _), (Below.refl _ _).alloc (Nat.le_refl _) _⟩
  clear C K hT hS hB
  go_enter Try.func28, Try.ntmps28
  go_wp2_with fail
  refine (C'.out _ X.out.1).mono ?_
  rintro e w1 ⟨rfl, q1, q2⟩
  have X1 : Hid (FsIn b t w1 (.agg #[.int .i64 f, .slice a n c]) r' ∧ Span b t w w1) := ⟨Fin.out _ q1, (Span.of_below X.out.2).trans (Span.of_turn q2 fun k o h => h)⟩
  clear q1 q2 X Fin C'
  go_wp2
  go_ret
  exact ⟨rfl, X1.out⟩

set_option maxHeartbeats 1600000 in
theorem heldFss (s : Int) (s0 : 0 ≤ s) (s1 : s ≤ 549755813888) (v : Value) (r : Fs) (w : World) (hB : r.big ≤ 1048576) (H : Hid (FsAt w v (r.mk' s))) :
    Calls Try.prog 29 #[v, .int .i64 s] w fun e w' => e = .returned (.int .i64 (s + 2 * (r.flows.length : Int) + (fwSum r.flows r.flows.length : Int))) ∧ Below w.heap.size w w' := by
  obtain ⟨a, c, rfl, K⟩ := H.out
  obtain ⟨hT, hS, -⟩ := Fs.small hB
  have C := fun w h => heldFws s s0 s1 a c r.flows hT hS w h
  have h0 : ¬ s + 2 * (r.flows.length : Int) + (fwSum r.flows r.flows.length : Int) < 0 := by omega
  have hlen : (r.mk' s).flows.length = r.flows.length := by simp [Fs.mk', fwMks_length]
  unfold Fs.val
  rw [hlen]
  have Hx : FwsAt w a (fwMks s r.flows r.flows.length) := K
  have hf : (r.mk' s).now = r.now := rfl
  rw [hf]
  clear H K hlen hf
  generalize fwMks s r.flows r.flows.length = l' at C Hx
  generalize hN : s + 2 * (r.flows.length : Int) + (fwSum r.flows r.flows.length : Int) = N at C h0 ⊢
  generalize r.flows.length = n at C ⊢
  generalize r.now = f
  have C' : Hid _ := C
  have X : Hid (FwsAt (w.alloc (.cells #[.int .i64 f, .slice a n c] 26)) a l' ∧ Below w.heap.size w (w.alloc (.cells #[.int .i64 f, .slice a n c] 26))) := ⟨Hx.alloc _, (Below.refl _ _).alloc (Nat.le_refl _) _⟩
  clear C Hx hT hS hB hN
  go_enter Try.func29, Try.ntmps29
  go_wp2_with fail
  refine (C'.out _ X.out.1).mono ?_
  rintro e w1 ⟨rfl, rfl⟩
  go_wp2
  go_ret
  exact ⟨rfl, X.out.2⟩
end Go.Proofs.Ytllmkolchgmjoaa

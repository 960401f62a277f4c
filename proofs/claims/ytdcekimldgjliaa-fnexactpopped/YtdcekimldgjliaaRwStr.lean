/-
  A record of a number and a list (Rows): the laws' copies, sizes, comparisons, marks. By the verifier, by program.
-/
import Derived.Test.YtdcekimldgjliaaRwPlain
import Derived.Test.YtdcekimldgjliaaIzTo
import Derived.Test.YtdcekimldgjliaaIzMark
import Derived.Test.YtdcekimldgjliaaSpan
import Derived.Test.YtdcekimldgjliaaStepRow
import Derived.Laws.ResultCell
import Derived.Laws.CopyOwn
namespace Go.Proofs.Ytdcekimldgjliaa
open Go.RowKit

/-- With its numbers put in. -/
def Rw.mk' (s : Int) (r : Rw) : Rw := ⟨r.most, izMks s r.lists r.lists.length⟩
set_option maxHeartbeats 1600000 in
theorem szRws (L : Int) (h0 : 0 ≤ L) (h1 : L ≤ 1048576) (r : Rw) (a : Option Addr) (c : Nat) (w : World) (hl : (r.lists.length : Int) ≤ 9223372036854775807) (hin : Hid (∀ k, k < r.lists.length → ((izAt r.lists k).length : Int) ≤ 9223372036854775807)) (h : Hid (IzAt w a r.lists)) :
    Calls Try.prog 8 #[r.val a c, .int .i64 L] w fun e w' => e = .returned (.int .i64 (if L - (r.big : Nat) < 0 then -1 else L - (r.big : Nat))) ∧ Below w.heap.size w w' := by
  have C := fun w h => szIzs L h0 h1 a c r.lists w hl hin h
  rw [show r.lists.length + izSum r.lists r.lists.length = r.big from rfl] at C
  generalize r.big = B at C ⊢
  unfold Rw.val
  have X : Hid (IzAt (w.alloc (.cells #[.int .i64 r.most, .slice a r.lists.length c] 24)) a r.lists ∧ Below w.heap.size w (w.alloc (.cells #[.int .i64 r.most, .slice a r.lists.length c] 24))) := ⟨h.out.alloc _, (Below.refl _ _).alloc (Nat.le_refl _) _⟩
  generalize r.lists.length = n at C X ⊢
  generalize r.most = f at X ⊢
  have C' : Hid _ := C
  clear C
  by_cases hn : L - (B : Nat) < 0
  · rw [if_pos hn] at C' ⊢
    go_enter Try.func8, Try.ntmps8
    go_wp2_with fail
    refine (C'.out _ X.out.1).mono ?_
    rintro e w' ⟨rfl, rfl⟩
    go_wp2
    go_ret
    exact ⟨rfl, X.out.2⟩
  · rw [if_neg hn] at C' ⊢
    have hn' : ¬ L - (B : Int) < 0 := hn
    go_enter Try.func8, Try.ntmps8
    go_wp2_with fail
    refine (C'.out _ X.out.1).mono ?_
    rintro e w' ⟨rfl, rfl⟩
    go_wp2
    go_ret
    exact ⟨rfl, X.out.2⟩

set_option maxHeartbeats 1600000 in
set_option maxRecDepth 100000 in
theorem toRws (r : Rw) (a : Option Addr) (c : Nat) (w : World) (hB : r.big ≤ 1048576) (h : Hid (IzAt w a r.lists)) :
    Calls Try.prog 10 #[r.val a c] w fun e w' => (∃ v, e = .returned v ∧ RwIn w.heap.size w'.heap.size w' v r) ∧ Below w.heap.size w w' := by
  obtain ⟨hT, -, hin⟩ := Rw.small hB
  have T := fun w h => toIzs a c r.lists w hT hin h
  obtain ⟨f, l⟩ := r
  simp only [Rw.val] at T h ⊢
  clear hin hT hB
  obtain ⟨n, hn⟩ : ∃ n, l.length = n := ⟨_, rfl⟩
  have Hn : Hid (l.length = n) := hn
  rw [hn] at T ⊢
  clear hn
  have T' : Hid _ := T
  clear T
  obtain ⟨W, hW⟩ : ∃ W, W = ((w.alloc (.cells #[.int .i64 f, .slice a n c] 24)).alloc (.cells #[.int .i64 0, .slice none 0 0] 29)).alloc (.cells #[.int .i64 f, .slice none 0 0] 29) := ⟨_, rfl⟩
  have X : Hid (IzAt W a l ∧ Below w.heap.size w W ∧ Boxed W (w.heap.size + 1) #[.int .i64 0, .slice none 0 0] 29 ∧ Boxed W (w.heap.size + 2) #[.int .i64 f, .slice none 0 0] 29 ∧ w.heap.size + 3 = W.heap.size) := by
    rw [hW]
    refine ⟨((h.out.alloc _).alloc _).alloc _, (((Below.refl _ _).alloc (Nat.le_refl _) _).alloc (by simp) _).alloc (by simp; omega) _, ?_, ?_, by simp⟩
    · have := (Boxed.new (w.alloc (.cells #[.int .i64 f, .slice a n c] 24)) #[.int .i64 0, .slice none 0 0] 29).more (.cells #[.int .i64 f, .slice none 0 0] 29)
      simpa using this
    · have := Boxed.new ((w.alloc (.cells #[.int .i64 f, .slice a n c] 24)).alloc (.cells #[.int .i64 0, .slice none 0 0] 29)) #[.int .i64 f, .slice none 0 0] 29
      simpa using this
  have HW : Hid (W = _) := hW
  clear hW h
  go_enter Try.func10, Try.ntmps10
  go_wp2_with fail
  rw [← HW.out]
  refine (T'.out _ X.out.1).mono ?_
  rintro e w1 ⟨g, rfl, q1, q2⟩
  have hz := X.out.2.2.2.2
  have X1 : Hid (Below w.heap.size w w1 ∧ Boxed w1 (w.heap.size + 1) #[.int .i64 0, .slice none 0 0] 29 ∧ Boxed w1 (w.heap.size + 2) #[.int .i64 f, .slice none 0 0] 29 ∧ IzIn W.heap.size w1.heap.size w1 (.slice (some ⟨g, 0, none⟩) n n) l ∧ w.heap.size + 3 ≤ w1.heap.size ∧ w.heap.size + 3 = W.heap.size) :=
    ⟨X.out.2.1.trans (q2.mono X.out.2.1.size), X.out.2.2.1.below (by omega) q2, X.out.2.2.2.1.below (by omega) q2, q1, by have := q2.size; omega, hz⟩
  have X2 : Hid (Boxed (w1.setCell ⟨w.heap.size + 2, 1, none⟩ (.slice (some ⟨g, 0, none⟩) n n)) (w.heap.size + 1) #[.int .i64 0, .slice none 0 0] 29 ∧ Boxed (w1.setCell ⟨w.heap.size + 2, 1, none⟩ (.slice (some ⟨g, 0, none⟩) n n)) (w.heap.size + 2) #[.int .i64 f, .slice (some ⟨g, 0, none⟩) n n] 29) :=
    ⟨X1.out.2.1.far (by omega) _ _, X1.out.2.2.1.put 1 _⟩
  have d1 : w1.cell? ⟨w.heap.size + 2, 1, none⟩ = some (.slice none 0 0) := X1.out.2.2.1.cell 1 rfl
  have z1 := X1.out.2.2.1.ice 1
  clear q1 q2 X hz
  go_wp2_with (first | (refine wpList_load_row rfl 29 (.tmp 3) rfl (w.heap.size + 2) rfl _ _ _ _ X2.out.2 Try.underlying29 rfl (by kernel_rfl) ?_) | (refine wpList_store_row rfl 29 (.tmp 2) (.tmp 11) rfl (w.heap.size + 1) _ rfl rfl _ _ X2.out.1 (by kernel_rfl) rfl (by simp [Value.oneCell']) ?_))
  have hB : ∀ k, k ≠ w.heap.size + 1 → k ≠ w.heap.size + 2 → ((w1.setCell ⟨w.heap.size + 2, 1, none⟩ (.slice (some ⟨g, 0, none⟩) n n)).setRow (w.heap.size + 1) #[.int .i64 f, .slice (some ⟨g, 0, none⟩) n n]).heap[k]? = w1.heap[k]? := fun k h1 h2 => by
    rw [setRow_other _ _ _ _ h1]
    exact Below.heap_setCell _ _ _ _ h2
  have hS : ((w1.setCell ⟨w.heap.size + 2, 1, none⟩ (.slice (some ⟨g, 0, none⟩) n n)).setRow (w.heap.size + 1) #[.int .i64 f, .slice (some ⟨g, 0, none⟩) n n]).heap.size = w1.heap.size := by
    rw [size_setRow]
    simp [World.setCell]
  refine bodyPost_ret (results_cell_row Try.results10 _ _ (w.heap.size + 1) _ _ _ _ rfl (setRow_heap _ (w.heap.size + 1) _ _ _ _ X2.out.1) Try.underlying29 rfl (by kernel_rfl)) rfl ⟨⟨_, rfl, some ⟨g, 0, none⟩, n, by show _ = Value.agg #[_, .slice _ l.length _]; rw [Hn.out], ?_⟩, below_setRow (X1.out.1.setCell (by show w.heap.size ≤ w.heap.size + 2; omega) _) (by omega) _⟩
  rw [hS]
  show IzIn _ _ _ (.slice _ l.length _) l
  rw [Hn.out]
  have q := X1.out.2.2.2.1
  have e := X1.out.2.2.2.2.2
  exact (q.keep (by rw [hS]; exact Nat.le_refl _) fun k h1 h2 => hB k (by omega) (by omega)).wide (by omega) (Nat.le_refl _) (by rw [hS]; exact Nat.le_refl _)

set_option maxHeartbeats 1600000 in
theorem eqRws (v1 v2 : Value) (r : Rw) (w : World) (hB : r.big ≤ 1048576) (h1 : Hid (RwAt w v1 r)) (h2 : Hid (RwAt w v2 r)) :
    Calls Try.prog 12 #[v1, v2] w fun e w' => e = .returned (.bool true) ∧ Below w.heap.size w w' := by
  obtain ⟨a1, c1, rfl, k1⟩ := h1.out
  obtain ⟨a2, c2, rfl, k2⟩ := h2.out
  obtain ⟨hT, -, hin⟩ := Rw.small hB
  have E := fun w h1 h2 => eqIzs a1 a2 c1 c2 r.lists w hT hin h1 h2
  clear h1 h2 hin hT hB
  obtain ⟨f, l⟩ := r
  simp only [Rw.val] at E k1 k2 ⊢
  generalize l.length = n at E ⊢
  have E' : Hid _ := E
  clear E
  have X : Hid (IzAt ((w.alloc (.cells #[.int .i64 f, .slice a1 n c1] 29)).alloc (.cells #[.int .i64 f, .slice a2 n c2] 29)) a1 l ∧ IzAt ((w.alloc (.cells #[.int .i64 f, .slice a1 n c1] 29)).alloc (.cells #[.int .i64 f, .slice a2 n c2] 29)) a2 l ∧ Below w.heap.size w ((w.alloc (.cells #[.int .i64 f, .slice a1 n c1] 29)).alloc (.cells #[.int .i64 f, .slice a2 n c2] 29))) :=
    ⟨(k1.alloc _).alloc _, (k2.alloc _).alloc _, ((Below.refl _ _).alloc (Nat.le_refl _) _).alloc (by simp) _⟩
  clear k1 k2
  go_enter Try.func12, Try.ntmps12
  go_wp2_with fail
  refine (E'.out _ X.out.1 X.out.2.1).mono ?_
  rintro e w1 ⟨rfl, q⟩
  have X1 : Hid (Below w.heap.size w w1) := X.out.2.2.trans (q.mono X.out.2.2.size)
  clear q
  go_wp2
  go_ret
  exact ⟨rfl, X1.out⟩

set_option maxHeartbeats 1600000 in
theorem markRws (s : Int) (s0 : 0 ≤ s) (s1 : s ≤ 549755813888) (b t : Nat) (v : Value) (r : Rw) (w : World) (hB : r.big ≤ 1048576) (H : Hid (RwIn b t w v r)) :
    Calls Try.prog 16 #[v, .int .i64 s] w fun e w' => e = .returned (.int .i64 (s + 3 * (izSum r.lists r.lists.length : Int))) ∧ RwIn b t w' v (r.mk' s) ∧ Span b t w w' := by
  obtain ⟨a, c, rfl, vs, H⟩ := H.out
  obtain ⟨hT, hS, -⟩ := Rw.small hB
  have C := fun w h => markIzs s s0 s1 b t (.slice a r.lists.length c) vs r.lists hT hS w h
  have Fin : Hid (∀ w', IzV b t w' (.slice a r.lists.length c) vs (izMks s r.lists r.lists.length) → RwIn b t w' (r.val a c) (r.mk' s)) := fun w' h => ⟨a, c, by simp [Rw.val, Rw.mk', izMks_length], vs, by simp only [Rw.mk', izMks_length]; exact h⟩
  have Sp : Hid (∀ w1 w', IzV b t w1 (.slice a r.lists.length c) vs r.lists → Turn (izHits vs r.lists) w1 w' → Span b t w1 w') := fun w1 w' h g => Span.of_turn g fun k o hh => by
    obtain ⟨i, hi, hh⟩ := hh
    have := SlIn.in (h.row i hi) (k := k) (o := o)
    rw [itcells_length] at this
    exact this hh
  generalize r.mk' s = r' at Fin ⊢
  generalize (izSum r.lists r.lists.length : Int) = N at C ⊢
  obtain ⟨f, l⟩ := r
  simp only [Rw.val] at C Fin Sp H ⊢
  generalize izMks s l l.length = l' at C Fin
  generalize l.length = n at C Fin Sp H ⊢
  have C' : Hid _ := C
  have X : Hid (IzV b t (w.alloc (.cells #[.int .i64 f, .slice a n c] 29)) (.slice a n c) vs l ∧ Below w.heap.size w (w.alloc (.cells #[.int .i64 f, .slice a n c] 29))) := ⟨H.below ((Below.refl _ _).alloc (Nat.le_refl _) _), (Below.refl _ _).alloc (Nat.le_refl _) _⟩
  clear C H hT hS hB
  go_enter Try.func16, Try.ntmps16
  go_wp2_with fail
  refine (C'.out _ X.out.1).mono ?_
  rintro e w1 ⟨rfl, q1, q2⟩
  have X1 : Hid (RwIn b t w1 (.agg #[.int .i64 f, .slice a n c]) r' ∧ Span b t w w1) := ⟨Fin.out _ q1, (Span.of_below X.out.2).trans (Sp.out _ _ X.out.1 q2)⟩
  clear q1 q2 X Fin Sp C'
  go_wp2
  go_ret
  exact ⟨rfl, X1.out⟩

set_option maxHeartbeats 1600000 in
theorem heldRws (s : Int) (s0 : 0 ≤ s) (s1 : s ≤ 549755813888) (v : Value) (r : Rw) (w : World) (hB : r.big ≤ 1048576) (H : Hid (RwAt w v (r.mk' s))) :
    Calls Try.prog 17 #[v, .int .i64 s] w fun e w' => e = .returned (.int .i64 (s + 3 * (izSum r.lists r.lists.length : Int))) ∧ Below w.heap.size w w' := by
  obtain ⟨a, c, rfl, K⟩ := H.out
  obtain ⟨hT, hS, -⟩ := Rw.small hB
  have C := fun w h => heldIzs s s0 s1 a c r.lists hT hS w h
  have h0 : ¬ s + 3 * (izSum r.lists r.lists.length : Int) < 0 := by omega
  have hlen : (r.mk' s).lists.length = r.lists.length := by simp [Rw.mk', izMks_length]
  unfold Rw.val
  rw [hlen]
  have Hx : IzAt w a (izMks s r.lists r.lists.length) := K
  have hf : (r.mk' s).most = r.most := rfl
  rw [hf]
  clear H K hlen hf
  generalize izMks s r.lists r.lists.length = l' at C Hx
  generalize hN : s + 3 * (izSum r.lists r.lists.length : Int) = N at C h0 ⊢
  generalize r.lists.length = n at C ⊢
  generalize r.most = f
  have C' : Hid _ := C
  have X : Hid (IzAt (w.alloc (.cells #[.int .i64 f, .slice a n c] 29)) a l' ∧ Below w.heap.size w (w.alloc (.cells #[.int .i64 f, .slice a n c] 29))) := ⟨Hx.alloc _, (Below.refl _ _).alloc (Nat.le_refl _) _⟩
  clear C Hx hT hS hB hN
  go_enter Try.func17, Try.ntmps17
  go_wp2_with fail
  refine (C'.out _ X.out.1).mono ?_
  rintro e w1 ⟨rfl, rfl⟩
  go_wp2
  go_ret
  exact ⟨rfl, X.out.2⟩
end Go.Proofs.Ytdcekimldgjliaa

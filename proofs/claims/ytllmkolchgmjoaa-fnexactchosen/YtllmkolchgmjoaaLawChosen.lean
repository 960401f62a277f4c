/-
  The walk of the exact law of Chosen, given what the program's Chosen answers. By the verifier, by program.
-/
import Derived.Test.YtllmkolchgmjoaaFsSpecC
import Derived.Test.YtllmkolchgmjoaaFsStr
import Derived.Test.YtllmkolchgmjoaaStepRow
import Derived.Deep.RegionLaw
namespace Go.Proofs.Ytllmkolchgmjoaa
open Go.RowKit

set_option maxHeartbeats 3200000 in
set_option maxRecDepth 100000 in
theorem fnExactChosen_of (impl' : ∀ (r : Fs) (v : Value) (w : World), r.big ≤ 1048576 → Hid (FsAt w v r) → Calls Try.prog 14 #[v] w fun e w' => e = .returned (.int .i64 (r.chosen)) ∧ Below w.heap.size w w')
    (r : Fs) (a : Option Addr) (c : Nat) (w : World) (hl : (r.flows.length : Int) ≤ 9223372036854775807) (hin : Hid (∀ k, k < r.flows.length → ((fwAt r.flows k).sizes.length : Int) ≤ 9223372036854775807)) (h : Hid (FwsAt w a r.flows)) :
    Calls Try.prog 5 #[r.val a c] w fun e w' => e = .returned (.bool true) ∧ Below w.heap.size w w' := by
  have S := fun w h => szFss 1048576 (by omega) (by omega) r a c w hl hin h
  by_cases hbig : (1048576 : Int) - (r.big : Nat) < 0
  · rw [if_pos hbig] at S
    obtain ⟨f, ls⟩ := r
    simp only [Fs.val] at S h ⊢
    generalize ls.length = n at S hl ⊢
    have S' : Hid _ := S
    clear S hbig
    have X : Hid (FwsAt (w.alloc (.cells #[.int .i64 f, .slice a n c] 46)) a ls ∧ Below w.heap.size w (w.alloc (.cells #[.int .i64 f, .slice a n c] 46))) := ⟨h.out.alloc _, (Below.refl _ _).alloc (Nat.le_refl _) _⟩
    go_enter Try.func5, Try.ntmps5
    go_wp2_with fail
    refine (S'.out _ X.out.1).mono ?_
    rintro e w1 ⟨rfl, q⟩
    have X1 : Hid (Below w.heap.size w w1) := X.out.2.trans (q.mono X.out.2.size)
    clear q
    go_wp2
    go_ret
    exact ⟨rfl, X1.out⟩
  rw [if_neg hbig] at S
  have hB : r.big ≤ 1048576 := by omega
  have T := fun w h => toFss r a c w hB h
  have C := fun v w h => specChosen r v w hB h
  have D := fun v w h => impl' r v w hB h
  have E := fun v1 v2 w h1 h2 => eqFss v1 v2 r w hB h1 h2
  have Sh : Hid (∀ b t w v, FsIn b t w v r → ∃ x y, v = .agg #[.int .i64 r.now, .slice x r.flows.length y]) := fun b t w v h => by
    obtain ⟨x, y, e, _⟩ := h
    exact ⟨x, y, e⟩
  generalize r.chosen = ok at C D
  have hb0 : ¬ (1048576 : Int) - (r.big : Nat) < 0 := hbig
  generalize (1048576 : Int) - (r.big : Nat) = left at S hb0
  have AT : Hid (∀ w v, FsAt w v r → FsAt w v r) := fun _ _ h => h
  obtain ⟨n, hn⟩ : ∃ n, r.flows.length = n := ⟨_, rfl⟩
  obtain ⟨f, hf⟩ : ∃ f, r.now = f := ⟨_, rfl⟩
  have hv : r.val a c = .agg #[.int .i64 f, .slice a n c] := by unfold Fs.val; rw [hn, hf]
  rw [hv] at S T ⊢
  rw [hn, hf] at Sh
  have S' : Hid _ := S
  have T' : Hid _ := T
  have C' : Hid _ := C
  have D' : Hid _ := D
  have E' : Hid _ := E
  have X : Hid (FwsAt (w.alloc (.cells #[.int .i64 f, .slice a n c] 46)) a r.flows ∧ Boxed (w.alloc (.cells #[.int .i64 f, .slice a n c] 46)) w.heap.size #[.int .i64 f, .slice a n c] 46 ∧ Below w.heap.size w (w.alloc (.cells #[.int .i64 f, .slice a n c] 46))) := ⟨h.out.alloc _, Boxed.new _ _ _, (Below.refl _ _).alloc (Nat.le_refl _) _⟩
  clear S T C D E hbig hB hn hf hv hl hin AT
  have K : Hid (∀ w', Below w.heap.size w w' → FwsAt w' a r.flows) := fun w' g => h.out.below g
  have Bx : Hid (∀ w', Below (w.heap.size + 1) (w.alloc (.cells #[.int .i64 f, .slice a n c] 46)) w' → Boxed w' w.heap.size #[.int .i64 f, .slice a n c] 46) := fun w' g => (Boxed.new w #[.int .i64 f, .slice a n c] 46).below (by omega) g
  clear h
  go_enter Try.func5, Try.ntmps5
  go_wp2_with fail
  refine (S'.out _ X.out.1).mono ?_
  rintro e w1 ⟨rfl, q⟩
  have X1 : Hid (Boxed w1 w.heap.size #[.int .i64 f, .slice a n c] 46 ∧ Below w.heap.size w w1) := ⟨X.out.2.1.below X.out.2.1.under q, X.out.2.2.trans (q.mono X.out.2.2.size)⟩
  clear q X S'
  have c0 : w1.cell? ⟨w.heap.size, 0, none⟩ = some (.int .i64 f) := X1.out.1.cell 0 rfl
  have c1 : w1.cell? ⟨w.heap.size, 1, none⟩ = some (.slice a n c) := X1.out.1.cell 1 rfl
  go_wp2_with fail
  refine (T'.out _ (K.out _ X1.out.2)).mono ?_
  rintro e w2 ⟨⟨v2, rfl, i2⟩, q⟩
  have X2 : Hid (Boxed w2 w.heap.size #[.int .i64 f, .slice a n c] 46 ∧ Below w.heap.size w w2 ∧ FsAt w2 v2 r) := ⟨X1.out.1.below X1.out.1.under q, X1.out.2.trans (q.mono X1.out.2.size), i2.at⟩
  obtain ⟨x2, y2, ev⟩ := Sh.out _ _ _ _ i2
  subst ev
  clear q i2 X1 c0 c1
  go_wp2_with fail
  refine (C'.out _ _ X2.out.2.2).mono ?_
  rintro e w3 ⟨rfl, q⟩
  have X3 : Hid (Boxed w3 w.heap.size #[.int .i64 f, .slice a n c] 46 ∧ Below w.heap.size w w3) := ⟨X2.out.1.below X2.out.1.under q, X2.out.2.1.trans (q.mono X2.out.2.1.size)⟩
  clear q X2 C'
  have c0 : w3.cell? ⟨w.heap.size, 0, none⟩ = some (.int .i64 f) := X3.out.1.cell 0 rfl
  have c1 : w3.cell? ⟨w.heap.size, 1, none⟩ = some (.slice a n c) := X3.out.1.cell 1 rfl
  go_wp2_with fail
  refine (T'.out _ (K.out _ X3.out.2)).mono ?_
  rintro e w4 ⟨⟨v4, rfl, i4⟩, q⟩
  have X4 : Hid (Boxed w4 w.heap.size #[.int .i64 f, .slice a n c] 46 ∧ Below w.heap.size w w4 ∧ FsAt w4 v4 r) := ⟨X3.out.1.below X3.out.1.under q, X3.out.2.trans (q.mono X3.out.2.size), i4.at⟩
  obtain ⟨x4, y4, ev⟩ := Sh.out _ _ _ _ i4
  subst ev
  clear q i4 X3 c0 c1
  have X5 : Hid (Boxed (w4.alloc (.cells #[.int .i64 f, .slice x4 n y4] 26)) w.heap.size #[.int .i64 f, .slice a n c] 46 ∧ Boxed (w4.alloc (.cells #[.int .i64 f, .slice x4 n y4] 26)) w4.heap.size #[.int .i64 f, .slice x4 n y4] 26 ∧ Below w.heap.size w (w4.alloc (.cells #[.int .i64 f, .slice x4 n y4] 26)) ∧ FsAt (w4.alloc (.cells #[.int .i64 f, .slice x4 n y4] 26)) (.agg #[.int .i64 f, .slice x4 n y4]) r) :=
    ⟨X4.out.1.more _, Boxed.new _ _ _, X4.out.2.1.alloc X4.out.2.1.size _, X4.out.2.2.below ((Below.refl _ _).alloc (Nat.le_refl _) _)⟩
  clear X4
  go_wp2_with fail
  refine (D'.out _ _ X5.out.2.2.2).mono ?_
  rintro e w5 ⟨rfl, q⟩
  have X6 : Hid (Boxed w5 w.heap.size #[.int .i64 f, .slice a n c] 46 ∧ Boxed w5 w4.heap.size #[.int .i64 f, .slice x4 n y4] 26 ∧ Below w.heap.size w w5 ∧ FsAt w5 (.agg #[.int .i64 f, .slice x4 n y4]) r) :=
    ⟨X5.out.1.below X5.out.1.under q, X5.out.2.1.below X5.out.2.1.under q, X5.out.2.2.1.trans (q.mono X5.out.2.2.1.size), X5.out.2.2.2.below q⟩
  clear q X5 D'
  generalize w4.heap.size = B at X6 ⊢
  have c0 : w5.cell? ⟨w.heap.size, 0, none⟩ = some (.int .i64 f) := X6.out.1.cell 0 rfl
  have c1 : w5.cell? ⟨w.heap.size, 1, none⟩ = some (.slice a n c) := X6.out.1.cell 1 rfl
  have d0 : w5.cell? ⟨B, 0, none⟩ = some (.int .i64 f) := X6.out.2.1.cell 0 rfl
  have d1 : w5.cell? ⟨B, 1, none⟩ = some (.slice x4 n y4) := X6.out.2.1.cell 1 rfl
  go_wp2_with fail
  go_region_law (first | (refine stepCall rfl 26 rfl #[.agg #[.int .i64 f, .slice a n c]] (by kernel_rfl) (T'.out w5.drew ((K.out _ X6.out.2.2.1).drew)) ?_; rintro e w6 ⟨⟨v6, rfl, i6⟩, q⟩; obtain ⟨x6, y6, ev⟩ := Sh.out _ _ _ _ i6; subst ev; have q' : Below w5.heap.size w5 w6 := (Below.refl _ w5).drew.trans q; have X7 : Hid (Boxed w6 B #[.int .i64 f, .slice x4 n y4] 26 ∧ Below w.heap.size w w6 ∧ FsAt w6 (.agg #[.int .i64 f, .slice x4 n y4]) r ∧ FsAt w6 (.agg #[.int .i64 f, .slice x6 n y6]) r) := ⟨X6.out.2.1.below X6.out.2.1.under q', X6.out.2.2.1.trans (q'.mono X6.out.2.2.1.size), X6.out.2.2.2.below q', i6.at⟩; have d2 : w6.cell? ⟨B, 0, none⟩ = some (.int .i64 f) := X7.out.1.cell 0 rfl; have d3 : w6.cell? ⟨B, 1, none⟩ = some (.slice x4 n y4) := X7.out.1.cell 1 rfl; clear q q' i6; refine ⟨_, rfl, ?_⟩) | (refine stepCall rfl 27 rfl #[.agg #[.int .i64 f, .slice x4 n y4], .agg #[.int .i64 f, .slice x6 n y6]] (by kernel_rfl) (E'.out _ _ w6 X7.out.2.2.1 X7.out.2.2.2) ?_; rintro e w7 ⟨rfl, q⟩; have X8 : Hid (Below w.heap.size w w7) := X7.out.2.1.trans (q.mono X7.out.2.1.size); clear q; refine ⟨_, rfl, ?_⟩))
  all_goals (
    go_wp2
    go_ret
    exact ⟨rfl, X8.out⟩)
end Go.Proofs.Ytllmkolchgmjoaa

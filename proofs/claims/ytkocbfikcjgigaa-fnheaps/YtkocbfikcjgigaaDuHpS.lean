/-
  The walk of the model's HeapPut. By the verifier.
-/
import Derived.Test.YtkocbfikcjgigaaDuPutS
namespace Go.Proofs.Ytkocbfikcjgigaa
open Go.RowKit

set_option maxHeartbeats 3200000 in
set_option maxRecDepth 100000 in
theorem specHeapPut (a : Option Addr) (cap : Nat) (l : List Du) (d : Du) (w : World) (hT : l.length ≤ 1048576) (hcap : l.length ≤ cap) (hn0 : a = none → cap = 0) (h : Hid (DusAt w a l)) :
    Calls Try.prog 9 #[.slice a l.length cap, d.val] w fun e w' => (∃ v, e = .returned (.tuple #[v, .bool (putB l d)]) ∧ DuRow w.heap.size w' v (putH l d)) ∧ Below w.heap.size w w' := by
  have A1 := fun w h => specHeapOk a cap l w hT hcap h
  have A2 := fun w => specDue d w
  have A3 := fun w h => specDuHas a cap l d w hT h
  have A4 := fun w (hk : l.length ≤ 1000) h => specDuPut a cap l d w hk hn0 h
  have Hv : Hid (putH l d = if hok l = true then (if mayPut l d = true then hput l d else l) else []) := rfl
  have Hb : Hid (putB l d = (hok l && mayPut l d)) := rfl
  have Hm : Hid (mayPut l d = (d.ok && (!duHas l d && !decide (l.length = 60)))) := rfl
  have H60 : Hid (hok l = true → l.length ≤ 60) := fun hk => (hok_iff.1 hk).1
  generalize putH l d = F at Hv ⊢
  generalize putB l d = bb at Hb ⊢
  generalize mayPut l d = may at Hv Hb Hm
  generalize hok l = ok at A1 Hv Hb H60
  generalize d.ok = b1 at A2 Hm
  generalize duHas l d = b2 at A3 Hm
  obtain ⟨n, hn⟩ : ∃ n, l.length = n := ⟨_, rfl⟩
  have Hn : Hid (l.length = n) := hn
  rw [hn] at A1 A3 A4 Hm H60 hT hcap ⊢
  clear hn
  generalize hput l d = P at A4 Hv
  obtain ⟨t, i⟩ := d
  simp only [Du.val] at A2 A3 A4 ⊢
  have A1' : Hid _ := A1
  have A2' : Hid _ := A2
  have A3' : Hid _ := A3
  have A4' : Hid _ := A4
  clear A1 A2 A3 A4
  have X : Hid (DusAt (w.alloc (.cells #[.int .i64 t, .int .i64 i] 26)) a l ∧ Boxed (w.alloc (.cells #[.int .i64 t, .int .i64 i] 26)) w.heap.size #[.int .i64 t, .int .i64 i] 26 ∧ Below w.heap.size w (w.alloc (.cells #[.int .i64 t, .int .i64 i] 26))) := ⟨h.out.alloc _, Boxed.new _ _ _, (Below.refl _ _).alloc (Nat.le_refl _) _⟩
  clear h
  go_enter Try.func9, Try.ntmps9
  go_wp2_with fail
  refine (A1'.out _ X.out.1).mono ?_
  rintro e w1 ⟨rfl, q⟩
  have X1 : Hid (DusAt w1 a l ∧ Boxed w1 w.heap.size #[.int .i64 t, .int .i64 i] 26 ∧ Below w.heap.size w w1) := ⟨X.out.1.below q, X.out.2.1.below X.out.2.1.under q, X.out.2.2.trans (q.mono X.out.2.2.size)⟩
  clear q X A1'
  cases ok
  · have e1 : F = [] := by rw [Hv.out]; rfl
    have e2 : bb = false := by rw [Hb.out]; rfl
    subst e1 e2
    have R : Hid (DuRow w.heap.size (w1.alloc (.cells #[] 26)) (.slice (some ⟨w1.heap.size, 0, none⟩) 0 0) [] ∧ Below w.heap.size w (w1.alloc (.cells #[] 26))) := ⟨du_built w1 w.heap.size X1.out.2.2.size, X1.out.2.2.alloc X1.out.2.2.size _⟩
    go_wp2
    go_ret2
    exact ⟨⟨_, rfl, R.out.1⟩, R.out.2⟩
  have hn60 : n ≤ 60 := H60.out (by first | exact trivial | exact rfl)
  have c0 : w1.cell? ⟨w.heap.size, 0, none⟩ = some (.int .i64 t) := X1.out.2.1.cell 0 rfl
  have c1 : w1.cell? ⟨w.heap.size, 1, none⟩ = some (.int .i64 i) := X1.out.2.1.cell 1 rfl
  go_wp2_with fail
  refine (A2'.out _).mono ?_
  rintro e w2 ⟨rfl, q⟩
  have X2 : Hid (DusAt w2 a l ∧ Boxed w2 w.heap.size #[.int .i64 t, .int .i64 i] 26 ∧ Below w.heap.size w w2) := ⟨X1.out.1.below q, X1.out.2.1.below X1.out.2.1.under q, X1.out.2.2.trans (q.mono X1.out.2.2.size)⟩
  clear q X1 c0 c1 A2'
  have no : Hid (may = false → F = l ∧ bb = false) := fun e => ⟨by rw [Hv.out, e]; rfl, by rw [Hb.out, e]; rfl⟩
  cases b1
  · obtain ⟨e1, e2⟩ := no.out (by rw [Hm.out]; rfl)
    subst e1 e2
    have B2 : Hid (DuRow w.heap.size (w2.alloc (.cells #[] 26)) (.slice (some ⟨w2.heap.size, 0, none⟩) 0 0) [] ∧ DusAt (w2.alloc (.cells #[] 26)) a F ∧ Below w.heap.size w (w2.alloc (.cells #[] 26)) ∧ w.heap.size ≤ (w2.alloc (.cells #[] 26)).heap.size) := ⟨du_built w2 w.heap.size X2.out.2.2.size, X2.out.1.alloc _, X2.out.2.2.alloc X2.out.2.2.size _, by have := X2.out.2.2.size; simp; omega⟩
    go_wp2_with (at_builtin; refine du_app rfl (.tmp 23) (.tmp 24) rfl w.heap.size _ [] a n cap F Hn.out rfl rfl B2.out.1 B2.out.2.1 hn0 (by rw [Hn.out]; simp; omega) B2.out.2.2.2 ?_; intro v' w3 q1 q2 q3 q4; have R : Hid (DuRow w.heap.size w3 v' F ∧ Below w.heap.size w w3) := ⟨by simpa using q1, B2.out.2.2.1.trans q2⟩; clear q1 q2 q3 q4)
    go_ret2
    exact ⟨⟨_, rfl, R.out.1⟩, R.out.2⟩
  have c0 : w2.cell? ⟨w.heap.size, 0, none⟩ = some (.int .i64 t) := X2.out.2.1.cell 0 rfl
  have c1 : w2.cell? ⟨w.heap.size, 1, none⟩ = some (.int .i64 i) := X2.out.2.1.cell 1 rfl
  go_wp2_with fail
  refine (A3'.out _ X2.out.1).mono ?_
  rintro e w3 ⟨rfl, q⟩
  have X3 : Hid (DusAt w3 a l ∧ Boxed w3 w.heap.size #[.int .i64 t, .int .i64 i] 26 ∧ Below w.heap.size w w3) := ⟨X2.out.1.below q, X2.out.2.1.below X2.out.2.1.under q, X2.out.2.2.trans (q.mono X2.out.2.2.size)⟩
  clear q X2 c0 c1 A3'
  by_cases hbad : b2 = true ∨ n = 60
  · obtain ⟨e1, e2⟩ := no.out (by rw [Hm.out]; rcases hbad with rfl | hbad; rfl; rw [decide_eq_true hbad]; simp)
    subst e1 e2
    have B2 : Hid (DuRow w.heap.size (w3.alloc (.cells #[] 26)) (.slice (some ⟨w3.heap.size, 0, none⟩) 0 0) [] ∧ DusAt (w3.alloc (.cells #[] 26)) a F ∧ Below w.heap.size w (w3.alloc (.cells #[] 26)) ∧ w.heap.size ≤ (w3.alloc (.cells #[] 26)).heap.size) := ⟨du_built w3 w.heap.size X3.out.2.2.size, X3.out.1.alloc _, X3.out.2.2.alloc X3.out.2.2.size _, by have := X3.out.2.2.size; simp; omega⟩
    have Hbad : Hid (b2 = true ∨ n = 60) := hbad
    clear hbad
    cases b2
    · have h60 : n = 60 := by rcases Hbad.out with q | q; cases q; exact q
      subst h60
      go_wp2_with (at_builtin; refine du_app rfl (.tmp 23) (.tmp 24) rfl w.heap.size _ [] a 60 cap F Hn.out rfl rfl B2.out.1 B2.out.2.1 hn0 (by rw [Hn.out]; simp) B2.out.2.2.2 ?_; intro v' w4 q1 q2 q3 q4; have R : Hid (DuRow w.heap.size w4 v' F ∧ Below w.heap.size w w4) := ⟨by simpa using q1, B2.out.2.2.1.trans q2⟩; clear q1 q2 q3 q4)
      go_ret2
      exact ⟨⟨_, rfl, R.out.1⟩, R.out.2⟩
    · go_wp2_with (at_builtin; refine du_app rfl (.tmp 23) (.tmp 24) rfl w.heap.size _ [] a n cap F Hn.out rfl rfl B2.out.1 B2.out.2.1 hn0 (by rw [Hn.out]; simp; omega) B2.out.2.2.2 ?_; intro v' w4 q1 q2 q3 q4; have R : Hid (DuRow w.heap.size w4 v' F ∧ Below w.heap.size w w4) := ⟨by simpa using q1, B2.out.2.2.1.trans q2⟩; clear q1 q2 q3 q4)
      go_ret2
      exact ⟨⟨_, rfl, R.out.1⟩, R.out.2⟩
  obtain ⟨hb2, h60⟩ : b2 = false ∧ ¬ n = 60 := ⟨by cases b2 with | false => rfl | true => exact absurd (.inl rfl) hbad, fun q => hbad (.inr q)⟩
  clear hbad
  subst hb2
  have h60' : ((n : Int) == 60) = false := by simp; omega
  have h60'' : ¬ (n : Int) = 60 := by omega
  have e1 : F = P := by rw [Hv.out, show may = true by rw [Hm.out, decide_eq_false h60]; rfl]; rfl
  have e2 : bb = true := by rw [Hb.out, show may = true by rw [Hm.out, decide_eq_false h60]; rfl]; rfl
  subst e1 e2
  have c0 : w3.cell? ⟨w.heap.size, 0, none⟩ = some (.int .i64 t) := X3.out.2.1.cell 0 rfl
  have c1 : w3.cell? ⟨w.heap.size, 1, none⟩ = some (.int .i64 i) := X3.out.2.1.cell 1 rfl
  go_wp2_with fail
  refine (A4'.out _ (by omega) X3.out.1).mono ?_
  rintro e w4 ⟨g, c, rfl, q1, q2⟩
  have R : Hid (DuRow w.heap.size w4 (.slice (some ⟨g, 0, none⟩) (n + 1) c) F ∧ Below w.heap.size w w4) := ⟨q1.mono (by have := X3.out.2.2.size; omega), X3.out.2.2.trans (q2.mono X3.out.2.2.size)⟩
  clear q1 q2 c0 c1 X3 A4'
  go_wp2
  go_ret2
  exact ⟨⟨_, rfl, R.out.1⟩, R.out.2⟩
end Go.Proofs.Ytkocbfikcjgigaa

/-
  The walk of the program's OffLine. By the verifier.
-/
import Derived.Test.YthnooglgppboeaaLnOn
namespace Go.Proofs.Ythnooglgppboeaa
open Go.RowKit

set_option maxHeartbeats 3200000 in
theorem implOff (l : Ln) (room : Int) (w : World) :
    Calls Try.prog 8 #[l.val, .int .i64 room] w fun e w' => (∃ r, e = .returned (.int .i64 r) ∧ Off l room r) ∧ Below w.heap.size w w' := by
  have hmf : ∀ (fn : Fn) (first cap : Array Value) (w : World), (Instr.makeFunc fn first cap).run Try.prog w = .ok (.func fn first cap) w := fun _ _ _ _ => rfl
  have A1 := fun w => implLineOk l w
  have A2 := fun w B h => implUpTo1 100000 room w B h
  have A3 := fun (h : (l.ok && inB 0 100000 room) = true) (B C : Nat) (w : World) hB hC => implFits l room 0 (Bool.and_eq_true_iff.1 h).1 (by omega) (by omega) B C w hB hC
  have A4 := fun (h : (l.ok && inB 0 100000 room) = true) (h0 : decide (l.takes 0 ≤ room) = true) (B C : Nat) (w : World) hB hC => implGreat l room (Bool.and_eq_true_iff.1 h).1 (of_decide_eq_true h0) B C w hB hC
  have Hr : Hid (l.room room = ((l.ok && inB 0 100000 room) && decide (l.takes 0 ≤ room))) := rfl
  have No : Hid (l.room room = false → Off l room (-1)) := off_no
  have Yes : Hid (∀ r, l.room room = true → Great l room r → Off l room r) := fun r => off_ok
  generalize l.room room = rm at Hr No Yes
  generalize decide (l.takes 0 ≤ room) = b3 at A3 A4 Hr
  generalize l.ok = b1 at A1 A3 A4 Hr
  generalize inB 0 100000 room = b2 at A2 A3 A4 Hr
  generalize Off l room = OFF at No Yes ⊢
  generalize Great l room = GR at A4 Yes
  obtain ⟨k, x, m⟩ := l
  simp only [Ln.val, Ln.cells] at *
  have A1' : Hid _ := A1
  have A2' : Hid _ := A2
  have A3' : Hid _ := A3
  have A4' : Hid _ := A4
  clear A1 A2 A3 A4
  have X : Hid (Boxed ((w.alloc (.cells #[.int .i64 k, .int .i64 x, .int .i64 m] 25)).alloc (.cells #[.int .i64 room] 2)) w.heap.size #[.int .i64 k, .int .i64 x, .int .i64 m] 25 ∧ Boxed ((w.alloc (.cells #[.int .i64 k, .int .i64 x, .int .i64 m] 25)).alloc (.cells #[.int .i64 room] 2)) (w.heap.size + 1) #[.int .i64 room] 2 ∧ Below w.heap.size w ((w.alloc (.cells #[.int .i64 k, .int .i64 x, .int .i64 m] 25)).alloc (.cells #[.int .i64 room] 2))) :=
    ⟨(Boxed.new _ _ _).more _, by have := Boxed.new (w.alloc (.cells #[.int .i64 k, .int .i64 x, .int .i64 m] 25)) #[.int .i64 room] 2; simpa using this, ((Below.refl _ _).alloc (Nat.le_refl _) _).alloc (by simp) _⟩
  go_enter Try.func8, Try.ntmps8
  go_wp2_with fail
  refine (A1'.out _).mono ?_
  rintro e w1 ⟨rfl, q⟩
  have X1 : Hid (Boxed w1 w.heap.size #[.int .i64 k, .int .i64 x, .int .i64 m] 25 ∧ Boxed w1 (w.heap.size + 1) #[.int .i64 room] 2 ∧ Below w.heap.size w w1) := ⟨X.out.1.below X.out.1.under q, X.out.2.1.below X.out.2.1.under q, X.out.2.2.trans (q.mono X.out.2.2.size)⟩
  clear q X
  have c3 : w1.cell? ⟨w.heap.size + 1, 0, none⟩ = some (.int .i64 room) := X1.out.2.1.cell 0 rfl
  cases b1
  · go_wp2
    go_ret
    exact ⟨⟨_, rfl, No.out (by rw [Hr.out]; rfl)⟩, X1.out.2.2⟩
  go_wp2_with fail
  refine (A2'.out _ _ (by simp)).mono ?_
  rintro e w2 ⟨rfl, hw2⟩
  have X2 : Hid (Boxed w2 w.heap.size #[.int .i64 k, .int .i64 x, .int .i64 m] 25 ∧ Boxed w2 (w.heap.size + 1) #[.int .i64 room] 2 ∧ Below w.heap.size w w2) := by
    rw [hw2]
    exact ⟨X1.out.1.more _, X1.out.2.1.more _, X1.out.2.2.alloc X1.out.2.2.size _⟩
  clear hw2 c3 X1
  cases b2
  · go_wp2
    go_ret
    exact ⟨⟨_, rfl, No.out (by rw [Hr.out]; rfl)⟩, X2.out.2.2⟩
  go_wp2_with fail
  refine (A3'.out rfl _ _ _ X2.out.1 X2.out.2.1).mono ?_
  rintro e w3 ⟨rfl, q⟩
  have X3 : Hid (Boxed w3 w.heap.size #[.int .i64 k, .int .i64 x, .int .i64 m] 25 ∧ Boxed w3 (w.heap.size + 1) #[.int .i64 room] 2 ∧ Below w.heap.size w w3) := ⟨X2.out.1.below X2.out.1.under q, X2.out.2.1.below X2.out.2.1.under q, X2.out.2.2.trans (q.mono X2.out.2.2.size)⟩
  clear q X2
  cases b3
  · go_wp2
    go_ret
    exact ⟨⟨_, rfl, No.out (by rw [Hr.out]; rfl)⟩, X3.out.2.2⟩
  go_wp2_with fail
  refine (A4'.out rfl (by first | exact trivial | exact rfl) _ _ _ X3.out.1 X3.out.2.1).mono ?_
  rintro e w4 ⟨⟨r, rfl, hr⟩, q⟩
  have X4 : Hid (Below w.heap.size w w4 ∧ GR r) := ⟨X3.out.2.2.trans (q.mono X3.out.2.2.size), hr⟩
  clear q hr
  go_wp2
  go_ret
  exact ⟨⟨_, rfl, Yes.out _ (by rw [Hr.out]; rfl) X4.out.2⟩, X4.out.1⟩
end Go.Proofs.Ythnooglgppboeaa

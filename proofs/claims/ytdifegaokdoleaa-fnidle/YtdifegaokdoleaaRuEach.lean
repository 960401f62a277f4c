/-
  The walks of the program's RulesOk and of what it asks. By the verifier.
-/
import Derived.Test.YtdifegaokdoleaaM7RuFn
import Derived.Test.YtdifegaokdoleaaRuOkS
namespace Go.Proofs.Ytdifegaokdoleaa
open Go.RowKit Go.Shelf

set_option maxHeartbeats 1600000 in
theorem implNotOk (r : Ru) (w : World) :
    Calls Try.prog 66 #[r.val] w fun e w' => e = .returned (.bool (!r.ok)) ∧ Below w.heap.size w w' := by
  have C := fun w => implRule r w
  generalize r.ok = ok at C ⊢
  obtain ⟨i, p, sn, sb, dn, db, pr, lo, hi, cl⟩ := r
  simp only [Ru.val] at C ⊢
  have C' : Hid _ := C
  clear C
  have hB : Hid (Below w.heap.size w (w.alloc (.cells #[.int .i64 i, .int .i64 p, .int .i64 sn, .int .i64 sb, .int .i64 dn, .int .i64 db, .int .i64 pr, .int .i64 lo, .int .i64 hi, .int .i64 cl] 32))) := (Below.refl _ _).alloc (Nat.le_refl _) _
  go_enter Try.func66, Try.ntmps66
  go_wp2_with fail
  refine (C'.out _).mono ?_
  rintro e w1 ⟨rfl, b1⟩
  have B : Hid (Below w.heap.size w w1) := hB.out.trans (b1.mono hB.out.size)
  clear b1 hB
  go_wp2
  go_ret
  exact ⟨rfl, B.out⟩
theorem notOkTells (w : World) : RuTells w (fun _ => False) 66 #[] #[] (fun _ => True) (fun r => !r.ok) :=
  ⟨enters_of Try.func66 (by kernel_rfl) rfl, fun _ h => h.elim, fun W r _ _ => implNotOk r W⟩

set_option maxHeartbeats 1600000 in
theorem implEach (a : Option Addr) (cap : Nat) (l : List Ru) (w : World) (hT : l.length ≤ 1048576) (h : Hid (RusAt w a l)) :
    Calls Try.prog 42 #[.slice a l.length cap] w fun e w' => e = .returned (.bool (l.all Ru.ok)) ∧ Below w.heap.size w w' := by
  have C := fun w h => implContainsU a cap l 66 #[] #[] (fun _ => False) (fun _ => True) (fun r => !r.ok) w hT h (fun _ _ => trivial) (notOkTells w)
  have Ha : Hid ((!(l.any fun r => !r.ok)) = l.all Ru.ok) := by
    show _ = _
    rw [List.all_eq_not_any_not]
  generalize (l.any fun r => !r.ok) = b at C Ha
  generalize l.all Ru.ok = b2 at Ha ⊢
  generalize l.length = len at C ⊢
  have C' : Hid _ := C
  clear C
  go_enter Try.func42, Try.ntmps42
  go_wp2_with fail
  refine (C'.out _ h).mono ?_
  rintro e w1 ⟨rfl, b1⟩
  have B : Hid (Below w.heap.size w w1) := b1
  clear b1
  go_wp2
  go_ret
  exact ⟨ret_bool Ha.out, B.out⟩

/-- Each of the first k behind the one ahead of it. -/
def riseK (l : List Ru) (k : Nat) : Bool := (List.range k).all fun i => decide (i = 0) || decide ((ruAt l (i - 1)).id < (ruAt l i).id)
theorem riseK_succ (l : List Ru) (k : Nat) : riseK l (k + 1) = (riseK l k && (decide (k = 0) || decide ((ruAt l (k - 1)).id < (ruAt l k).id))) := by simp [riseK, List.range_succ]
theorem riseK_hit {l : List Ru} {k n : Nat} (h : k < n) (g : (decide (k = 0) || decide ((ruAt l (k - 1)).id < (ruAt l k).id)) = false) : riseK l n = false := by
  unfold riseK
  rw [List.all_eq_false]
  exact ⟨k, List.mem_range.2 h, by simp [g]⟩
theorem goodRs_each (l : List Ru) : goodRs l l.length = (l.all Ru.ok && riseK l l.length) := by
  have hall : l.all Ru.ok = (List.range l.length).all fun i => (ruAt l i).ok := by
    rw [Bool.eq_iff_iff, List.all_eq_true, List.all_eq_true]
    constructor
    · intro h i hi
      rw [ruAt_lt (List.mem_range.1 hi)]
      exact h _ (List.getElem_mem _)
    · intro h r hr
      obtain ⟨i, hi, rfl⟩ := List.mem_iff_getElem.1 hr
      have := h i (List.mem_range.2 hi)
      rwa [ruAt_lt hi] at this
  rw [hall]
  unfold goodRs riseK goodR
  induction (List.range l.length) with
  | nil => rfl
  | cons x xs ih =>
    simp only [List.all_cons, ih]
    cases (ruAt l x).ok <;> cases (decide (x = 0) || decide ((ruAt l (x - 1)).id < (ruAt l x).id)) <;> simp

set_option maxHeartbeats 1600000 in
theorem implRise (a : Option Addr) (cap : Nat) (l : List Ru) (w : World) (hT : l.length ≤ 40) (h : Hid (RusAt w a l)) :
    Calls Try.prog 48 #[.slice a l.length cap] w fun e w' => e = .returned (.bool (riseK l l.length)) ∧ Below w.heap.size w w' := by
  obtain ⟨len, hlen⟩ : ∃ n, l.length = n := ⟨_, rfl⟩
  rw [hlen] at hT ⊢
  have Hlen : Hid (l.length = len) := hlen
  clear hlen
  have e : Hid (len = 0 → riseK l len = true) := by rintro rfl; rfl
  go_enter Try.func48, Try.ntmps48
  go_wp2
  go_loopw [3] (fun i wr => ∃ k : Nat, 1 ≤ k ∧ (k ≤ len ∨ len = 0 ∧ k = 1) ∧ i = .int .i64 k ∧ Hid (riseK l k = true) ∧ Hid (Below w.heap.size w wr)) (fun i _ => len - (intOf i).toNat)
  case atStart => exact ⟨1, Nat.le_refl _, by omega, rfl, by show riseK l 1 = true; simp [riseK], Below.refl _ _⟩
  case round =>
    obtain ⟨k, hk1, hk, rfl, hg, hb⟩ := hrel
    by_cases hlt : k < len
    · have R : Hid (RusAt wr a l) := h.out.below hb.out
      obtain ⟨j, rfl⟩ : ∃ j, k = j + 1 := ⟨k - 1, by omega⟩
      obtain ⟨b1, o1, ha1, hb1, -⟩ := R.out (j + 1) (by rw [Hlen.out]; exact hlt)
      subst ha1
      have c0 := (R.out.drew.cells (k := j + 1) (by rw [Hlen.out]; exact hlt)).1
      have d0 := (R.out.drew.cells (k := j) (by rw [Hlen.out]; omega)).1
      have Hn : Hid _ := riseK_succ l (j + 1)
      have Hh : Hid _ := fun g => riseK_hit (l := l) (k := j + 1) (n := len) hlt g
      have hlt' : (j : Int) + 1 < (len : Int) := by omega
      have hj0 : (0 : Int) ≤ (j : Int) := by omega
      have hjl : (j : Int) < (len : Int) := by omega
      simp only [Nat.add_sub_cancel] at Hn Hh
      by_cases hL : (ruAt l j).id < (ruAt l (j + 1)).id
      · have hgood : Hid (riseK l (j + 1 + 1) = true) := by
          show riseK l (j + 1 + 1) = true
          rw [Hn.out, hg.out, decide_eq_true hL]; simp
        clear Hn Hh R
        generalize (ruAt l (j + 1)).id = x at c0 hL
        generalize (ruAt l j).id = y at d0 hL
        go_wp2
        go_region
        all_goals
          go_wp2
          go_roundw
          case rel => exact ⟨j + 1 + 1, by omega, by omega, by go_num, hgood, hb.out.trans ((Below.refl _ _).drew.mono hb.out.size)⟩
          case measure => simp [intOf]; omega
      · have hbad : Hid (riseK l len = false) := Hh.out (by rw [decide_eq_false hL]; simp)
        clear Hn Hh R
        generalize (ruAt l (j + 1)).id = x at c0 hL
        generalize (ruAt l j).id = y at d0 hL
        go_wp2
        go_region
        all_goals
          go_wp2
          go_ret
          exact ⟨ret_bool hbad.out.symm, hb.out.trans ((Below.refl _ _).drew.mono hb.out.size)⟩
    · have hfin : Hid (riseK l len = true) := by
        show riseK l len = true
        by_cases h0 : len = 0
        · exact e.out h0
        · obtain rfl : k = len := by omega
          exact hg.out
      go_wp2
      go_ret
      exact ⟨ret_bool hfin.out.symm, hb.out⟩

set_option maxHeartbeats 1600000 in
theorem implRules (a : Option Addr) (cap : Nat) (l : List Ru) (w : World) (hT : l.length ≤ 1048576) (h : Hid (RusAt w a l)) :
    Calls Try.prog 16 #[.slice a l.length cap] w fun e w' => e = .returned (.bool (rusOk l)) ∧ Below w.heap.size w w' := by
  have Hok : Hid (rusOk l = (decide (l.length ≤ 40) && (l.all Ru.ok && riseK l l.length))) := by show rusOk l = _; unfold rusOk; rw [goodRs_each]
  have C := fun w h => implEach a cap l w hT h
  have D := fun (w : World) (h40 : l.length ≤ 40) h => implRise a cap l w h40 h
  generalize l.all Ru.ok = b1 at Hok C
  generalize riseK l l.length = b2 at Hok D
  generalize rusOk l = ok at Hok ⊢
  generalize l.length = len at *
  have C' : Hid _ := C
  have D' : Hid _ := D
  clear C D
  by_cases h40 : len ≤ 40
  · have h40' : (len : Int) ≤ 40 := by omega
    rw [decide_eq_true h40] at Hok
    go_enter Try.func16, Try.ntmps16
    go_wp2_with fail
    refine (C'.out _ h).mono ?_
    rintro e w1 ⟨rfl, q1⟩
    have B : Hid (Below w.heap.size w w1) := q1
    clear q1
    cases b1
    · go_wp2
      go_ret
      exact ⟨ret_bool (by rw [Hok.out]; rfl), B.out⟩
    · go_wp2_with fail
      refine (D'.out _ h40 (h.out.below B.out)).mono ?_
      rintro e w2 ⟨rfl, q2⟩
      have B2 : Hid (Below w.heap.size w w2) := B.out.trans (q2.mono B.out.size)
      clear q2
      go_wp2
      go_ret
      exact ⟨ret_bool (by rw [Hok.out]; rfl), B2.out⟩
  · have h40' : ¬ (len : Int) ≤ 40 := by omega
    rw [decide_eq_false h40] at Hok
    go_enter Try.func16, Try.ntmps16
    go_wp2
    go_ret
    exact ⟨ret_bool (by rw [Hok.out]; rfl), Below.refl _ _⟩
end Go.Proofs.Ytdifegaokdoleaa

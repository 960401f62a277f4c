/-
  Plain facts of steers: prob goes up and down; many times are times of times; with no delay prob comes to nought. By the verifier.
-/
import Derived.Test.YtemegnfefjcdaaaDoorSrPlain
namespace Go.Proofs.YtemegnfefjcdaaaDoor
open Go.RowKit

theorem tdiv_up {x b : Int} (hx : 0 ≤ x) (hb : 1 ≤ b) : 0 ≤ Int.tdiv x b := Int.tdiv_nonneg hx (by omega)
theorem tdiv_down {x b : Int} (hx : x ≤ 0) (hb : 1 ≤ b) : Int.tdiv x b ≤ 0 := by
  have h := tdiv_up (x := -x) (b := b) (by omega) hb
  rw [Int.neg_tdiv] at h
  omega
theorem Sr.stirred_ok {p : Sr} {d : Int} (h : p.ok = true) (hd : inB 0 100000 d = true) : p.stirred d = p.stir d := by
  unfold Sr.stirred
  rw [if_pos h, if_pos hd]
theorem Sr.up {p : Sr} {d : Int} (h : p.ok = true) (h1 : p.target < d) (h2 : p.old ≤ d) : p.prob ≤ (p.stir d).prob := by
  have g := Sr.ok_iff.1 h
  have ha : 0 ≤ p.add d := by unfold Sr.add; omega
  have hq := tdiv_up ha (byOf_in p.prob).1
  unfold Sr.stir
  simp only
  rw [if_neg (by omega)]
  unfold Sr.raw
  omega
theorem Sr.down {p : Sr} {d : Int} (h : p.ok = true) (h1 : d ≤ p.target) (h2 : d ≤ p.old) : (p.stir d).prob ≤ p.prob := by
  have g := Sr.ok_iff.1 h
  have ha : p.add d ≤ 0 := by unfold Sr.add; omega
  have hq := tdiv_down ha (byOf_in p.prob).1
  have hr : p.raw d ≤ p.prob := by unfold Sr.raw; omega
  have hr2 := p.raw_in d
  unfold Sr.stir
  simp only
  split <;> omega
theorem Sr.hit_less {p : Sr} {x : Int} (h : p.hit x = true) (hx : 0 < x) : p.hit (x - 1) = true := by
  unfold Sr.hit at *
  simp only [Bool.and_eq_true, inB_true, decide_eq_true_eq] at *
  exact ⟨h.1, by omega, by omega⟩
theorem Sr.hit_in {p : Sr} {x : Int} (h : p.hit x = true) : 0 ≤ x ∧ x ≤ 1048575 := by
  unfold Sr.hit at h
  simp only [Bool.and_eq_true, inB_true, decide_eq_true_eq] at h
  omega
theorem Sr.times_add (p : Sr) (d : Int) (a b : Nat) : (p.times d a).times d b = p.times d (a + b) := by
  induction b with
  | zero => rfl
  | succ b ih =>
    show ((p.times d a).times d b).stir d = (p.times d (a + b)).stir d
    rw [ih]
theorem Sr.settled_ok {p : Sr} {d n : Int} (h : p.ok = true) (hd : inB 0 100000 d = true) (hn : inB 0 1000 n = true) : p.settled d n = p.times d n.toNat := by
  unfold Sr.settled
  rw [if_pos h, if_pos ⟨hd, hn⟩]
theorem Sr.settled_half {p : Sr} {d n : Int} (h : p.ok = true) (hd : inB 0 100000 d = true) (hn : inB 0 1000 n = true) : (p.settled d (n / 2)).settled d (n - n / 2) = p.settled d n := by
  have hn' := hn
  rw [inB_true] at hn'
  rw [Sr.settled_ok h hd hn, Sr.settled_ok h hd (by rw [inB_true]; omega), Sr.settled_ok (Sr.times_ok h hd _) hd (by rw [inB_true]; omega), Sr.times_add]
  congr 1
  omega
/-- One stir without delay, of a steer whose old is nought. -/
theorem Sr.ease {p : Sr} (h : p.ok = true) (h0 : p.old = 0) : (p.stir 0).prob ≤ p.prob - p.prob / 64 := by
  have g := Sr.ok_iff.1 h
  have ha : p.add 0 ≤ 0 := by unfold Sr.add; omega
  have hq := tdiv_down ha (byOf_in p.prob).1
  have hr : p.raw 0 ≤ p.prob := by unfold Sr.raw; omega
  have hr2 := p.raw_in 0
  unfold Sr.stir
  simp only
  rw [if_pos ⟨trivial, h0⟩]
  omega
theorem Sr.eased {p : Sr} (h : p.ok = true) (h0 : p.old = 0) (n : Nat) : (p.times 0 n).old = 0 ∧ (p.times 0 n).prob ≤ max 10484 (1048576 - 163 * (n : Int)) := by
  have hd : inB 0 100000 0 = true := by rw [inB_true]; omega
  induction n with
  | zero =>
    have g := Sr.ok_iff.1 h
    refine ⟨h0, ?_⟩
    show p.prob ≤ _
    omega
  | succ n ih =>
    have ho := Sr.times_ok h hd n
    have e := Sr.ease ho ih.1
    have g := Sr.ok_iff.1 ho
    refine ⟨rfl, ?_⟩
    show ((p.times 0 n).stir 0).prob ≤ _
    omega
/-- At the target from the start prob stays at nought. -/
theorem Sr.still (n : Nat) : (Sr.times ⟨20, 0, 0⟩ 20 n).prob = 0 := by
  have h : ∀ n : Nat, (Sr.times ⟨20, 0, 0⟩ 20 n) = ⟨20, 0, 0⟩ ∨ (Sr.times ⟨20, 0, 0⟩ 20 n) = ⟨20, 20, 0⟩ := by
    intro n
    induction n with
    | zero => exact .inl rfl
    | succ n ih =>
      right
      show (Sr.times ⟨20, 0, 0⟩ 20 n).stir 20 = _
      rcases ih with e | e
      · rw [e]; rfl
      · rw [e]; rfl
  rcases h n with e | e
  · rw [e]
  · rw [e]
end Go.Proofs.YtemegnfefjcdaaaDoor

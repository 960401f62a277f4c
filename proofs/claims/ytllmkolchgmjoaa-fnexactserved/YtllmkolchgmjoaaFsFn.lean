/-
  Flows as plain data: when they are right, who begins when, who is chosen, who is served. By the verifier.
-/
import Derived.Test.YtllmkolchgmjoaaFsPlain
namespace Go.Proofs.Ytllmkolchgmjoaa
open Go.RowKit

def szAt (l : List Int) (j : Nat) : Int := l[j]?.getD 0
theorem szAt_mem {l : List Int} {j : Nat} (h : j < l.length) : szAt l j ∈ l := by
  unfold szAt
  rw [List.getElem?_eq_getElem h]
  exact List.getElem_mem h
def Fw.ok (x : Fw) : Bool := inB 1 10 x.weight && (inB 0 1125899906842624 x.finish && (inB 0 40 (x.sizes.length : Int) && x.sizes.all (inB 1 2000)))
def Fs.ok (f : Fs) : Bool := inB 0 1125899906842624 f.now && (inB 1 8 (f.flows.length : Int) && f.flows.all Fw.ok)
theorem Fw.ok_iff {x : Fw} : x.ok = true ↔ (1 ≤ x.weight ∧ x.weight ≤ 10) ∧ (0 ≤ x.finish ∧ x.finish ≤ 1125899906842624) ∧ x.sizes.length ≤ 40 ∧ ∀ y ∈ x.sizes, 1 ≤ y ∧ y ≤ 2000 := by
  unfold Fw.ok
  simp only [Bool.and_eq_true, inB_true, List.all_eq_true]
  constructor
  · rintro ⟨h1, h2, h3, h4⟩
    exact ⟨h1, h2, by omega, h4⟩
  · rintro ⟨h1, h2, h3, h4⟩
    exact ⟨h1, h2, by omega, h4⟩
theorem Fs.ok_iff {f : Fs} : f.ok = true ↔ (0 ≤ f.now ∧ f.now ≤ 1125899906842624) ∧ (1 ≤ f.flows.length ∧ f.flows.length ≤ 8) ∧ ∀ x ∈ f.flows, x.ok = true := by
  unfold Fs.ok
  simp only [Bool.and_eq_true, inB_true, List.all_eq_true]
  constructor
  · rintro ⟨h1, h2, h3⟩
    exact ⟨h1, by omega, h3⟩
  · rintro ⟨h1, h2, h3⟩
    exact ⟨h1, by omega, h3⟩
theorem Fs.ok_at {f : Fs} (h : f.ok = true) {i : Nat} (hi : i < f.flows.length) : (fwAt f.flows i).ok = true := by
  rw [fwAt_lt hi]
  exact (Fs.ok_iff.1 h).2.2 _ (List.getElem_mem hi)
/-- When one begins. -/
def Fs.beg (f : Fs) (i : Nat) : Int := max f.now (fwAt f.flows i).finish
def Fs.waits (f : Fs) (i : Nat) : Bool := decide (0 < (fwAt f.flows i).sizes.length)
def Fs.begins (f : Fs) (flow : Int) : Int := if (f.ok && (inB 0 ((f.flows.length : Int) - 1) flow && f.waits flow.toNat)) = true then f.beg flow.toNat else -1
/-- Who is the first among the first k that begins first. -/
def Fs.best (f : Fs) : Nat → Int
  | 0 => -1
  | k + 1 => if (f.waits k && (decide (f.best k < 0) || decide (f.beg k < f.beg (f.best k).toNat))) = true then (k : Int) else f.best k
def Fs.chosen (f : Fs) : Int := if f.ok = true then f.best f.flows.length else -1
def Fs.mayQ (f : Fs) (flow size : Int) : Bool := decide ((0 ≤ flow ∧ flow < (f.flows.length : Int)) ∧ (1 ≤ size ∧ size ≤ 2000) ∧ (fwAt f.flows flow.toNat).sizes.length ≠ 40)
/-- One more of it, at a time. -/
def Fw.more (x : Fw) (now size : Int) : Fw := ⟨x.weight, if x.sizes.length = 0 then max x.finish now else x.finish, x.sizes ++ [size]⟩
def Fs.queued (f : Fs) (flow size : Int) : Fs := if f.ok = true then (if f.mayQ flow size = true then ⟨f.now, f.flows.set flow.toNat ((fwAt f.flows flow.toNat).more f.now size)⟩ else f) else ⟨0, []⟩
def Fs.queuedB (f : Fs) (flow size : Int) : Bool := f.ok && f.mayQ flow size
def Fw.cost (x : Fw) : Int := szAt x.sizes 0 * (2520 / x.weight)
def Fs.endOf (f : Fs) (i : Nat) : Int := f.beg i + (fwAt f.flows i).cost
/-- The first of one goes. -/
def Fs.serve (f : Fs) (i : Nat) : Fs := ⟨f.beg i, f.flows.set i ⟨(fwAt f.flows i).weight, f.endOf i, (fwAt f.flows i).sizes.drop 1⟩⟩
def Fs.can (f : Fs) : Bool := f.ok && (decide (0 ≤ f.chosen) && decide (f.endOf f.chosen.toNat ≤ 1125899906842624))
def Fs.served (f : Fs) : Fs := if f.ok = true then (if f.can = true then f.serve f.chosen.toNat else f) else ⟨0, []⟩
def Fs.servedI (f : Fs) : Int := if f.can = true then f.chosen else -1
def Fs.servedN (f : Fs) : Int := if f.can = true then szAt (fwAt f.flows f.chosen.toNat).sizes 0 else 0

/-- The first of those that begin first: none waits, or one that waits, and none begins ahead of it, and of alike ones it is the first. -/
theorem Fs.best_is (f : Fs) (k : Nat) : (f.best k = -1 ∧ ∀ i, i < k → f.waits i = false) ∨
    ∃ b : Nat, f.best k = b ∧ b < k ∧ f.waits b = true ∧ ∀ i, i < k → f.waits i = true → f.beg b ≤ f.beg i ∧ (f.beg i = f.beg b → b ≤ i) := by
  induction k with
  | zero => exact .inl ⟨rfl, fun i hi => by omega⟩
  | succ k ih =>
    unfold Fs.best
    by_cases hw : f.waits k = true
    · rcases ih with ⟨e, h⟩ | ⟨b, e, hb, hwb, h⟩
      · right
        refine ⟨k, by rw [if_pos (by rw [hw, e]; simp)], by omega, hw, fun i hi hwi => ?_⟩
        by_cases hik : i = k
        · subst hik; exact ⟨Int.le_refl _, fun _ => Nat.le_refl _⟩
        · rw [h i (by omega)] at hwi; cases hwi
      · right
        rw [e]
        have hn : ¬ ((b : Int) < 0) := by omega
        by_cases hl : f.beg k < f.beg b
        · refine ⟨k, by rw [if_pos (by simp [hw, hl])], by omega, hw, fun i hi hwi => ?_⟩
          by_cases hik : i = k
          · subst hik; exact ⟨Int.le_refl _, fun _ => Nat.le_refl _⟩
          · have := (h i (by omega) hwi).1
            exact ⟨by omega, fun e => by omega⟩
        · refine ⟨b, by rw [if_neg (by simp [hw, hl, hn])], by omega, hwb, fun i hi hwi => ?_⟩
          by_cases hik : i = k
          · subst hik; exact ⟨by omega, fun _ => by omega⟩
          · exact h i (by omega) hwi
    · have hw' : f.waits k = false := by simpa using hw
      rw [if_neg (by rw [hw']; simp)]
      rcases ih with ⟨e, h⟩ | ⟨b, e, hb, hwb, h⟩
      · left
        refine ⟨e, fun i hi => ?_⟩
        by_cases hik : i = k
        · subst hik; exact hw'
        · exact h i (by omega)
      · right
        refine ⟨b, e, by omega, hwb, fun i hi hwi => ?_⟩
        by_cases hik : i = k
        · subst hik; rw [hw'] at hwi; cases hwi
        · exact h i (by omega) hwi
theorem Fs.best_in (f : Fs) (k : Nat) : -1 ≤ f.best k ∧ f.best k < k := by
  rcases f.best_is k with ⟨e, _⟩ | ⟨b, e, hb, _⟩ <;> omega
/-- The chosen one. -/
theorem Fs.chosen_is {f : Fs} (hk : f.ok = true) (h : 0 ≤ f.chosen) : ∃ b : Nat, f.chosen = b ∧ b < f.flows.length ∧ f.waits b = true ∧ ∀ i, i < f.flows.length → f.waits i = true → f.beg b ≤ f.beg i ∧ (f.beg i = f.beg b → b ≤ i) := by
  unfold Fs.chosen at h ⊢
  rw [if_pos hk] at h ⊢
  rcases f.best_is f.flows.length with ⟨e, _⟩ | h2
  · omega
  · exact h2
theorem Fs.cost_in {x : Fw} (hk : x.ok = true) (hw : 0 < x.sizes.length) : (252 ≤ 2520 / x.weight ∧ 2520 / x.weight ≤ 2520) ∧ (1 ≤ szAt x.sizes 0 ∧ szAt x.sizes 0 ≤ 2000) ∧ 252 ≤ x.cost ∧ x.cost ≤ 5040000 := by
  have h1 := Fw.ok_iff.1 hk
  have h2 := h1.2.2.2 _ (szAt_mem (j := 0) hw)
  have h3 : 252 ≤ 2520 / x.weight ∧ 2520 / x.weight ≤ 2520 := by
    obtain ⟨⟨a, b⟩, _⟩ := h1
    generalize x.weight = q at a b
    have : q = 1 ∨ q = 2 ∨ q = 3 ∨ q = 4 ∨ q = 5 ∨ q = 6 ∨ q = 7 ∨ q = 8 ∨ q = 9 ∨ q = 10 := by omega
    rcases this with rfl | rfl | rfl | rfl | rfl | rfl | rfl | rfl | rfl | rfl <;> decide
  refine ⟨h3, h2, ?_, ?_⟩
  · unfold Fw.cost
    have : 1 * 252 ≤ szAt x.sizes 0 * (2520 / x.weight) := Int.mul_le_mul h2.1 h3.1 (by omega) (by omega)
    omega
  · unfold Fw.cost
    have : szAt x.sizes 0 * (2520 / x.weight) ≤ 2000 * 2520 := Int.mul_le_mul h2.2 h3.2 (by omega) (by omega)
    omega
theorem Fs.beg_in {f : Fs} (hk : f.ok = true) {i : Nat} (hi : i < f.flows.length) : 0 ≤ f.beg i ∧ f.beg i ≤ 1125899906842624 ∧ f.now ≤ f.beg i ∧ (fwAt f.flows i).finish ≤ f.beg i := by
  have h1 := Fs.ok_iff.1 hk
  have h2 := Fw.ok_iff.1 (Fs.ok_at hk hi)
  unfold Fs.beg
  omega
theorem fw_mem_set {l : List Fw} {k : Nat} {x y : Fw} (h : y ∈ l.set k x) : y ∈ l ∨ y = x := List.mem_or_eq_of_mem_set h
/-- Who can be served is served, and is right. -/
theorem Fs.serve_ok {f : Fs} (hk : f.ok = true) {i : Nat} (hi : i < f.flows.length) (hw : f.waits i = true) (he : f.endOf i ≤ 1125899906842624) : (f.serve i).ok = true := by
  have h1 := Fs.ok_iff.1 hk
  have h2 := Fw.ok_iff.1 (Fs.ok_at hk hi)
  have h3 := Fs.beg_in hk hi
  have h4 := Fs.cost_in (Fs.ok_at hk hi) (of_decide_eq_true hw)
  rw [Fs.ok_iff]
  unfold Fs.serve
  simp only [List.length_set]
  refine ⟨by omega, h1.2.1, fun x hx => ?_⟩
  rcases fw_mem_set hx with hx | rfl
  · exact h1.2.2 x hx
  · rw [Fw.ok_iff]
    simp only
    refine ⟨h2.1, ?_, by rw [List.length_drop]; omega, fun y hy => h2.2.2.2 y (List.mem_of_mem_drop hy)⟩
    unfold Fs.endOf at he ⊢
    omega
theorem Fs.queued_ok {f : Fs} {flow size : Int} (hk : f.ok = true) (hm : f.mayQ flow size = true) : (f.queued flow size).ok = true := by
  have h1 := Fs.ok_iff.1 hk
  have hm' := of_decide_eq_true hm
  have hi : flow.toNat < f.flows.length := by omega
  have h2 := Fw.ok_iff.1 (Fs.ok_at hk hi)
  unfold Fs.queued
  rw [if_pos hk, if_pos hm, Fs.ok_iff]
  simp only [List.length_set]
  refine ⟨h1.1, h1.2.1, fun x hx => ?_⟩
  rcases fw_mem_set hx with hx | rfl
  · exact h1.2.2 x hx
  · rw [Fw.ok_iff]
    unfold Fw.more
    simp only
    refine ⟨h2.1, ?_, ?_, fun y hy => ?_⟩
    · split <;> omega
    · simp; omega
    · rcases List.mem_append.1 hy with hy | hy
      · exact h2.2.2.2 y hy
      · rw [List.mem_singleton] at hy; subst hy; exact hm'.2.1
end Go.Proofs.Ytllmkolchgmjoaa

import Derived.Test.YtgimalimfmoilaaM0DzPlain
import Derived.Test.YtgimalimfmoilaaWhOrd
import Derived.Test.YtgimalimfmoilaaDuFn
/-
  A record of a number and a list (Wheel) as plain data: cells that hold it, memory of the call's own. By the verifier, by program.
-/
namespace Go.Proofs.Ytgimalimfmoilaa
open Go.RowKit

structure Wh where
  step : Int
  slots : List (List Du)
/-- As a value. -/
def Wh.val (r : Wh) (a : Option Addr) (c : Nat) : Value := .agg #[.int .i64 r.step, .slice a r.slots.length c]
/-- A value that holds it. -/
def WhAt (w : World) (v : Value) (r : Wh) : Prop := ∃ a c, v = r.val a c ∧ DzAt w a r.slots
/-- A value that holds it in memory from b up to t. -/
def WhIn (b t : Nat) (w : World) (v : Value) (r : Wh) : Prop := ∃ a c, v = r.val a c ∧ DzIn b t w (.slice a r.slots.length c) r.slots
/-- How much it is. -/
def Wh.big (r : Wh) : Nat := r.slots.length + dzSum r.slots r.slots.length
section
variable {b t : Nat} {w w' : World} {v : Value} {r : Wh}
theorem WhIn.at (h : WhIn b t w v r) : WhAt w v r := by
  obtain ⟨a, c, e, h⟩ := h
  exact ⟨a, c, e, h.at⟩
theorem WhAt.below (h : WhAt w v r) (g : Below w.heap.size w w') : WhAt w' v r := by
  obtain ⟨a, c, e, h⟩ := h
  exact ⟨a, c, e, h.below g⟩
theorem WhIn.below (h : WhIn b t w v r) (g : Below w.heap.size w w') : WhIn b t w' v r := by
  obtain ⟨a, c, e, h⟩ := h
  exact ⟨a, c, e, h.below g⟩
theorem WhIn.keep (h : WhIn b t w v r) (hs : w.heap.size ≤ w'.heap.size) (hk : ∀ k, b ≤ k → k < t → w'.heap[k]? = w.heap[k]?) : WhIn b t w' v r := by
  obtain ⟨a, c, e, h⟩ := h
  exact ⟨a, c, e, h.keep hs hk⟩
theorem WhIn.wide {b' t' : Nat} (h : WhIn b t w v r) (hb : b' ≤ b) (ht : t ≤ t') (hs : t' ≤ w.heap.size) : WhIn b' t' w v r := by
  obtain ⟨a, c, e, h⟩ := h
  exact ⟨a, c, e, h.wide hb ht hs⟩
end
theorem Wh.small {r : Wh} (h : r.big ≤ 1048576) : r.slots.length ≤ 1048576 ∧ dzSum r.slots r.slots.length ≤ 1048576 ∧ ∀ k, k < r.slots.length → (dzAt r.slots k).length ≤ 1048576 := by
  unfold Wh.big at h
  refine ⟨by omega, by omega, fun k hk => ?_⟩
  have := dzSum_one hk
  omega
end Go.Proofs.Ytgimalimfmoilaa

/-
  Wheels as plain functions: which are right, one put in, the first one taken; what they leave. By the verifier.
-/
namespace Go.Proofs.Ytgimalimfmoilaa
open Go.RowKit

theorem flat_len (ls : List (List Du)) : ls.flatten.length = dzSum ls ls.length := by
  unfold dzSum
  rw [List.take_length, List.length_flatten]
/-- Is the one at k of the slot i right? -/
def whGood (step : Int) (i : Nat) (l : List Du) (k : Nat) : Bool := (duAt l k).ok && (decide (slot step (duAt l k) = (i : Int)) && !(decide (0 < k) && !decide ((duAt l (k - 1)).lt (duAt l k))))
def Wh.ok (r : Wh) : Bool := (inB 1 1000 r.step && decide (r.slots.length = 8)) && (decide (dzSum r.slots 8 ≤ 60) && (List.range 8).all fun i => (List.range (dzAt r.slots i).length).all (whGood r.step i (dzAt r.slots i)))
theorem Wh.ok_iff {r : Wh} : r.ok = true ↔ ((1 ≤ r.step ∧ r.step ≤ 1000) ∧ r.slots.length = 8) ∧ dzSum r.slots 8 ≤ 60 ∧ ∀ i, i < 8 → ∀ k, k < (dzAt r.slots i).length → whGood r.step i (dzAt r.slots i) k = true := by
  unfold Wh.ok
  simp only [Bool.and_eq_true, inB_true, decide_eq_true_eq, List.all_eq_true, List.mem_range]
theorem whGood_iff {step : Int} {i : Nat} {l : List Du} {k : Nat} : whGood step i l k = true ↔ (duAt l k).ok = true ∧ slot step (duAt l k) = (i : Int) ∧ (0 < k → (duAt l (k - 1)).lt (duAt l k)) := by
  unfold whGood
  cases (duAt l k).ok <;> by_cases h1 : slot step (duAt l k) = (i : Int) <;> by_cases h2 : 0 < k <;> by_cases h3 : (duAt l (k - 1)).lt (duAt l k) <;> simp [h1, h2, h3]
/-- In other words. -/
theorem Wh.ok_is {r : Wh} : r.ok = true ↔ (1 ≤ r.step ∧ r.step ≤ 1000) ∧ Slots r.step r.slots ∧ r.slots.flatten.length ≤ 60 ∧ ∀ x ∈ r.slots.flatten, x.ok = true := by
  rw [Wh.ok_iff]
  constructor
  · rintro ⟨⟨h1, h2⟩, h3, h4⟩
    have g := fun i hi k hk => whGood_iff.1 (h4 i hi k hk)
    refine ⟨h1, ⟨h2, fun i hi => rise_adj fun k k0 hk => (g i hi k hk).2.2 k0, fun i hi d hd => ?_⟩, ?_, fun x hx => ?_⟩
    · obtain ⟨k, hk, rfl⟩ := List.mem_iff_getElem.1 hd
      have := (g i hi k hk).2.1
      rwa [duAt_lt hk] at this
    · rw [flat_len, h2]; exact h3
    · obtain ⟨i, hi, hx⟩ := mem_flat.1 hx
      obtain ⟨k, hk, rfl⟩ := List.mem_iff_getElem.1 hx
      have := (g i (by omega) k hk).1
      rwa [duAt_lt hk] at this
  · rintro ⟨h1, hs, h3, h4⟩
    refine ⟨⟨h1, hs.len⟩, by rw [flat_len, hs.len] at h3; exact h3, fun i hi k hk => whGood_iff.2 ?_⟩
    have hm : duAt (dzAt r.slots i) k ∈ dzAt r.slots i := by rw [duAt_lt hk]; exact List.getElem_mem hk
    exact ⟨h4 _ (mem_flat.2 ⟨i, by rw [hs.len]; exact hi, hm⟩), hs.at' i hi _ hm, fun k0 => rise_of (hs.rise i hi) k0 hk⟩
def Wh.mayPut (r : Wh) (d : Du) : Bool := d.ok && (!duHas (dzAt r.slots (slot r.step d).toNat) d && !decide (dzSum r.slots r.slots.length = 60))
/-- Laid in where it belongs. -/
def Wh.into (r : Wh) (d : Du) : Wh := ⟨r.step, r.slots.set (slot r.step d).toNat (ins (dzAt r.slots (slot r.step d).toNat) d)⟩
def Wh.put (r : Wh) (d : Du) : Wh := if r.ok = true then (if r.mayPut d = true then r.into d else r) else ⟨0, []⟩
def Wh.putB (r : Wh) (d : Du) : Bool := r.ok && r.mayPut d
/-- Which slot holds the first one (none: below 0). -/
def Wh.first (r : Wh) : Int := wat r.slots 8
def Wh.less (r : Wh) : Wh := ⟨r.step, wless r.slots r.first.toNat⟩
def Wh.takeB (r : Wh) : Bool := r.ok && decide (0 ≤ r.first)
def Wh.take (r : Wh) : Wh := if r.ok = true then (if 0 ≤ r.first then r.less else r) else ⟨0, []⟩
def Wh.takeD (r : Wh) : Du := if r.takeB = true then slHd r.slots r.first.toNat else ⟨0, 0⟩
theorem Wh.not_in {r : Wh} {d : Du} (h : r.ok = true) (hn : d ∉ dzAt r.slots (slot r.step d).toNat) : d ∉ r.slots.flatten := by
  obtain ⟨h1, hs, h3, h4⟩ := Wh.ok_is.1 h
  intro hd
  obtain ⟨i, hi, hd⟩ := mem_flat.1 hd
  have e := hs.at' i (by rw [← hs.len]; exact hi) d hd
  rw [e] at hn
  exact hn (by simpa using hd)
theorem Wh.into_ok {r : Wh} {d : Du} (h : r.ok = true) (hd : d.ok = true) (hn : d ∉ r.slots.flatten) (hl : r.slots.flatten.length < 60) : (r.into d).ok = true ∧ (r.into d).slots.flatten.Perm (d :: r.slots.flatten) := by
  obtain ⟨h1, hs, h3, h4⟩ := Wh.ok_is.1 h
  obtain ⟨g1, g2⟩ := hs.into hn
  refine ⟨Wh.ok_is.2 ⟨h1, g1, ?_, fun x hx => ?_⟩, g2⟩
  · show (List.flatten (List.set _ _ _)).length ≤ 60
    rw [g2.length_eq, List.length_cons]
    omega
  · rcases List.mem_cons.1 (g2.subset hx) with rfl | hx
    · exact hd
    · exact h4 x hx
theorem Wh.mayPut_is {r : Wh} {d : Du} (h : r.ok = true) : r.mayPut d = true ↔ d.ok = true ∧ d ∉ r.slots.flatten ∧ r.slots.flatten.length < 60 := by
  obtain ⟨h1, hs, h3, h4⟩ := Wh.ok_is.1 h
  unfold Wh.mayPut
  simp only [Bool.and_eq_true, Bool.not_eq_true', duHas_false, decide_eq_false_iff_not]
  rw [← flat_len]
  constructor
  · rintro ⟨q1, q2, q3⟩
    exact ⟨q1, Wh.not_in h q2, by omega⟩
  · rintro ⟨q1, q2, q3⟩
    refine ⟨q1, fun hd => q2 (mem_flat.2 ⟨_, ?_, hd⟩), by omega⟩
    have := slot_in r.step d
    rw [hs.len]
    omega
theorem Wh.put_is {r : Wh} {d : Du} (h : r.putB d = true) : (r.put d).ok = true ∧ (r.put d).slots.flatten.Perm (d :: r.slots.flatten) ∧ (r.put d).step = r.step ∧ d ∉ r.slots.flatten ∧ d.ok = true := by
  unfold Wh.putB at h
  simp only [Bool.and_eq_true] at h
  obtain ⟨q1, q2, q3⟩ := (Wh.mayPut_is h.1).1 h.2
  have e : r.put d = r.into d := by unfold Wh.put; rw [if_pos h.1, if_pos h.2]
  rw [e]
  obtain ⟨g1, g2⟩ := Wh.into_ok h.1 q1 q2 q3
  exact ⟨g1, g2, rfl, q2, q1⟩
theorem Wh.first_is {r : Wh} (h : r.ok = true) : (r.first = -1 ∧ r.slots.flatten = []) ∨ ∃ b : Nat, r.first = b ∧ b < 8 ∧ slHas r.slots b = true ∧ ∀ x ∈ r.slots.flatten, ¬ x.lt (slHd r.slots b) := by
  obtain ⟨h1, hs, h3, h4⟩ := Wh.ok_is.1 h
  rcases wat_is r.slots 8 with ⟨e, g⟩ | ⟨b, e, hb, hh, hm⟩
  · left
    refine ⟨e, ?_⟩
    apply List.eq_nil_iff_forall_not_mem.2
    intro x hx
    obtain ⟨i, hi, hx⟩ := mem_flat.1 hx
    have := g i (by rw [← hs.len]; exact hi)
    unfold slHas at this
    have := of_decide_eq_false this
    have := List.length_pos_of_mem hx
    omega
  · exact .inr ⟨b, e, hb, hh, fun x hx => hs.first hm hx⟩
theorem Wh.take_is {r : Wh} (h : r.takeB = true) : r.take.ok = true ∧ (r.takeD :: r.take.slots.flatten).Perm r.slots.flatten ∧ (∀ x ∈ r.slots.flatten, ¬ x.lt r.takeD) ∧ r.take.step = r.step := by
  have h' := h
  unfold Wh.takeB at h'
  simp only [Bool.and_eq_true, decide_eq_true_eq] at h'
  obtain ⟨hk, h0⟩ := h'
  obtain ⟨h1, hs, h3, h4⟩ := Wh.ok_is.1 hk
  have e1 : r.take = r.less := by unfold Wh.take; rw [if_pos hk, if_pos h0]
  have e2 : r.takeD = slHd r.slots r.first.toNat := by unfold Wh.takeD; rw [if_pos h]
  rw [e1, e2]
  rcases Wh.first_is hk with ⟨e, -⟩ | ⟨b, e, hb, hh, hm⟩
  · omega
  have eb : r.first.toNat = b := by rw [e]; simp
  unfold Wh.less
  rw [eb]
  obtain ⟨g1, g2⟩ := hs.less hb hh
  refine ⟨Wh.ok_is.2 ⟨h1, g1, ?_, fun x hx => h4 x (g2.subset (List.mem_cons_of_mem _ hx))⟩, g2, hm, rfl⟩
  have := g2.length_eq
  rw [List.length_cons] at this
  show (wless r.slots b).flatten.length ≤ 60
  omega
theorem Wh.take_none {r : Wh} (h : r.ok = true) (hn : r.takeB = false) : r.slots.flatten = [] := by
  rcases Wh.first_is h with ⟨-, e⟩ | ⟨b, e, -⟩
  · exact e
  · unfold Wh.takeB at hn
    rw [h, e] at hn
    simp at hn
end Go.Proofs.Ytgimalimfmoilaa

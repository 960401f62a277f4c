import Derived.Test.YtgimalimfmoilaaM2WhFn
/-
  A wheel drained into a heap, in plain words: what comes out is a heap of its dues, and turned back it is the wheel. By the verifier.
-/
namespace Go.Proofs.Ytgimalimfmoilaa
open Go.RowKit

/-- The first ones put into a heap, one by one, at most so many. -/
def drain : Nat → Wh → List Du → List Du
  | 0, _, o => o
  | n + 1, x, o => if x.takeB = true then drain n x.take (hput o x.takeD) else o
def Wh.cnt (r : Wh) : Nat := r.slots.flatten.length
def toH (r : Wh) : List Du := if r.ok = true then drain r.cnt r [] else []
theorem Wh.cnt_take {r : Wh} (h : r.takeB = true) : r.cnt = r.take.cnt + 1 := by
  have := (Wh.take_is h).2.1.length_eq
  unfold Wh.cnt
  rw [← this]
  simp
theorem drain_next {r : Wh} {o : List Du} (h : r.takeB = true) : drain r.cnt r o = drain r.take.cnt r.take (hput o r.takeD) := by
  rw [Wh.cnt_take h, drain, if_pos h]
theorem drain_none {n : Nat} {r : Wh} {o : List Du} (h : r.takeB = false) : drain n r o = o := by
  cases n with
  | zero => rfl
  | succ n => rw [drain, if_neg (by rw [h]; decide)]
theorem drain_is (n : Nat) : ∀ (r : Wh) (o : List Du), r.ok = true → r.cnt = n → HpO o → HpO (drain n r o) ∧ (drain n r o).Perm (o ++ r.slots.flatten) := by
  induction n with
  | zero =>
    intro r o hk hn ho
    have : r.slots.flatten = [] := List.eq_nil_of_length_eq_zero hn
    rw [this, List.append_nil]
    exact ⟨ho, List.Perm.refl _⟩
  | succ n ih =>
    intro r o hk hn ho
    cases hb : r.takeB with
    | false =>
      have := Wh.take_none hk hb
      unfold Wh.cnt at hn
      rw [this] at hn
      simp at hn
    | true =>
      have ht := Wh.take_is hb
      have hc := Wh.cnt_take hb
      rw [drain, if_pos hb]
      obtain ⟨h1, h2⟩ := ih r.take (hput o r.takeD) ht.1 (by omega) (hput_ho ho)
      refine ⟨h1, h2.trans ?_⟩
      refine ((hput_perm o r.takeD).append_right _).trans ?_
      rw [List.cons_append]
      refine List.perm_middle.symm.trans ?_
      exact List.Perm.append_left o ht.2.1
theorem toH_is {r : Wh} (h : r.ok = true) : hok (toH r) = true ∧ (toH r).Perm r.slots.flatten := by
  unfold toH
  rw [if_pos h]
  obtain ⟨h1, h2⟩ := drain_is r.cnt r [] h rfl (fun j _ hj => by simp at hj)
  rw [List.nil_append] at h2
  obtain ⟨-, hs, h60, hall⟩ := Wh.ok_is.1 h
  exact ⟨hok_is.2 ⟨by rw [h2.length_eq]; exact h60, fun x hx => hall x (h2.subset hx), h2.nodup_iff.2 hs.nodup, h1⟩, h2⟩
/-- A heap and a wheel of the same dues tell the same first one, and what is left is the same again. -/
theorem heap_wheel {l : List Du} {r : Wh} (hl : hok l = true) (hr : r.ok = true) (hp : l.Perm r.slots.flatten) :
    mayTake l = r.takeB ∧ takeD l = r.takeD ∧ (r.takeB = true → hok (takeH l) = true ∧ r.take.ok = true ∧ (takeH l).Perm r.take.slots.flatten) := by
  cases hb : r.takeB with
  | false =>
    have h0 := Wh.take_none hr hb
    rw [h0] at hp
    have hl0 : l = [] := hp.eq_nil
    subst hl0
    have hm : mayTake [] = false := by unfold mayTake; simp
    refine ⟨hm, ?_, fun h => by cases h⟩
    unfold takeD Wh.takeD
    rw [hm, hb]
    rfl
  | true =>
    have ht := Wh.take_is hb
    have hl0 : 0 < l.length := by rw [hp.length_eq, ← ht.2.1.length_eq]; simp
    have hm : mayTake l = true := mayTake_iff.2 ⟨hl, hl0⟩
    have hh := htake_hok hm
    have e : duAt l 0 = r.takeD := first_same hp hh.2.2.2.2 (ht.2.1.subset (List.mem_cons_self ..)) hh.2.2.1 ht.2.2.1
    refine ⟨hm, ?_, fun _ => ?_⟩
    · unfold takeD
      rw [if_pos hm, e]
    · unfold takeH
      rw [if_pos hm]
      refine ⟨hh.1, ht.1, ?_⟩
      have h1 : (duAt l 0 :: htake l).Perm (r.takeD :: r.take.slots.flatten) := hh.2.1.trans (hp.trans ht.2.1.symm)
      rw [e] at h1
      exact h1.cons_inv
end Go.Proofs.Ytgimalimfmoilaa

/-
  A heap turned into a wheel, as plain functions. By the verifier.
-/
namespace Go.Proofs.Ytgimalimfmoilaa
open Go.RowKit

def toWs (step : Int) (l : List Du) : Wh := l.foldl Wh.into ⟨step, List.replicate 8 []⟩
def toWB (l : List Du) (step : Int) : Bool := hok l && inB 1 1000 step
def toW (l : List Du) (step : Int) : Wh := if toWB l step = true then toWs step l else ⟨0, []⟩
theorem toWs_next {step : Int} {l : List Du} {k : Nat} (h : k < l.length) : toWs step (l.take (k + 1)) = (toWs step (l.take k)).into (duAt l k) := by
  unfold toWs
  rw [List.take_succ_eq_append_getElem h, List.foldl_append, duAt_lt h]
  rfl
theorem toWs_is {step : Int} {l : List Du} (hs : 1 ≤ step ∧ step ≤ 1000) (hk : hok l = true) : ∀ k, k ≤ l.length → (toWs step (l.take k)).ok = true ∧ (toWs step (l.take k)).slots.flatten.Perm (l.take k) ∧ (toWs step (l.take k)).step = step := by
  obtain ⟨h60, hall, hnd, -⟩ := hok_is.1 hk
  intro k
  induction k with
  | zero =>
    intro _
    have e : (List.replicate 8 ([] : List Du)).flatten = [] := rfl
    refine ⟨Wh.ok_is.2 ⟨hs, Slots.empty step, ?_, ?_⟩, ?_, rfl⟩
    · show (List.replicate 8 ([] : List Du)).flatten.length ≤ 60
      rw [e]; simp
    · intro x hx
      have hx : x ∈ (List.replicate 8 ([] : List Du)).flatten := hx
      rw [e] at hx; cases hx
    · show (List.replicate 8 ([] : List Du)).flatten.Perm (l.take 0)
      rw [e]; simp
  | succ k ih =>
    intro hl
    obtain ⟨g1, g2, g3⟩ := ih (by omega)
    have hkl : k < l.length := by omega
    rw [toWs_next hkl]
    have hm : duAt l k ∈ l := by rw [duAt_lt hkl]; exact List.getElem_mem hkl
    have hn : duAt l k ∉ (toWs step (l.take k)).slots.flatten := fun q => nodup_take.1 hnd k hkl (g2.subset q)
    obtain ⟨q1, q2⟩ := Wh.into_ok g1 (hall _ hm) hn (by rw [g2.length_eq, List.length_take]; omega)
    refine ⟨q1, ?_, g3⟩
    rw [List.take_succ_eq_append_getElem hkl, ← duAt_lt hkl]
    exact q2.trans ((g2.cons _).trans (List.perm_append_singleton _ _).symm)
end Go.Proofs.Ytgimalimfmoilaa

/-
  What comes of a small wheel or heap is small. By the verifier.
-/
namespace Go.Proofs.Ytgimalimfmoilaa
open Go.RowKit

theorem WhIn.cells {b t : Nat} {W : World} {v : Value} {x : Wh} (h : WhIn b t W v x) : ∃ p q, v = .agg #[.int .i64 x.step, .slice p x.slots.length q] := by
  obtain ⟨p, q, e, _⟩ := h
  exact ⟨p, q, e⟩
theorem Wh.ok_big {x : Wh} (h : x.ok = true) : x.big ≤ 1048576 := by
  have h1 := Wh.ok_iff.1 h
  unfold Wh.big
  rw [h1.1.2]
  omega
theorem Wh.zero_big : (⟨0, []⟩ : Wh).big ≤ 1048576 := by simp [Wh.big, dzSum]
theorem Wh.big_take {r : Wh} (h : r.big ≤ 1048576) : r.take.big ≤ 1048576 := by
  cases hb : r.takeB with
  | true => exact Wh.ok_big (Wh.take_is hb).1
  | false =>
    unfold Wh.takeB at hb
    unfold Wh.take
    by_cases hk : r.ok = true
    · rw [hk, Bool.true_and, decide_eq_false_iff_not] at hb
      rw [if_pos hk, if_neg hb]
      exact h
    · rw [if_neg hk]
      exact Wh.zero_big
theorem Wh.big_put {r : Wh} {d : Du} (h : r.big ≤ 1048576) : (r.put d).big ≤ 1048576 := by
  cases hb : r.putB d with
  | true => exact Wh.ok_big (Wh.put_is hb).1
  | false =>
    unfold Wh.putB at hb
    unfold Wh.put
    by_cases hk : r.ok = true
    · rw [hk, Bool.true_and] at hb
      rw [if_pos hk, if_neg (by rw [hb]; decide)]
      exact h
    · rw [if_neg hk]
      exact Wh.zero_big
theorem toW_big (l : List Du) (step : Int) : (toW l step).big ≤ 1048576 := by
  unfold toW
  by_cases hb : toWB l step = true
  · rw [if_pos hb]
    unfold toWB at hb
    rw [Bool.and_eq_true] at hb
    have := (toWs_is (inB_true.1 hb.2) hb.1 l.length (Nat.le_refl _)).1
    rw [List.take_length] at this
    exact Wh.ok_big this
  · rw [if_neg hb]
    exact Wh.zero_big
theorem toH_big {r : Wh} (_h : r.big ≤ 1048576) : (toH r).length ≤ 1048576 := by
  by_cases hk : r.ok = true
  · have := (hok_is.1 (toH_is hk).1).1
    omega
  · unfold toH
    rw [if_neg hk]
    simp
end Go.Proofs.Ytgimalimfmoilaa

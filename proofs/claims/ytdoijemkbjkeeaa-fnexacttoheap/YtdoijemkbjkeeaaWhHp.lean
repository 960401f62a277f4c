/-
  A wheel drained into a heap, in plain words: what comes out is a heap of its dues, and turned back it is the wheel. By the verifier.
-/
import Derived.Test.YtdoijemkbjkeeaaM3WhFn
namespace Go.Proofs.Ytdoijemkbjkeeaa
open Go.RowKit

/-- The first ones put into a heap, one by one, at most so many. -/
def drain : Nat → Wh → List Du → List Du
  | 0, _, o => o
  | n + 1, x, o => if x.takeB = true then drain n x.take (hput o x.takeD) else o
def Wh.cnt (r : Wh) : Nat := r.slots.flatten.length
def toH (r : Wh) : List Du := if r.ok = true then drain r.cnt r [] else []
theorem Wh.cnt_take {r : Wh} (h : r.takeB = true) : r.cnt = r.take.cnt + 1 := by
  have := (Wh.take_is h).2.1.length_eq
  unfold Wh.cnt
  rw [← this]
  simp
theorem drain_next {r : Wh} {o : List Du} (h : r.takeB = true) : drain r.cnt r o = drain r.take.cnt r.take (hput o r.takeD) := by
  rw [Wh.cnt_take h, drain, if_pos h]
theorem drain_none {n : Nat} {r : Wh} {o : List Du} (h : r.takeB = false) : drain n r o = o := by
  cases n with
  | zero => rfl
  | succ n => rw [drain, if_neg (by rw [h]; decide)]
theorem drain_is (n : Nat) : ∀ (r : Wh) (o : List Du), r.ok = true → r.cnt = n → HpO o → HpO (drain n r o) ∧ (drain n r o).Perm (o ++ r.slots.flatten) := by
  induction n with
  | zero =>
    intro r o hk hn ho
    have : r.slots.flatten = [] := List.eq_nil_of_length_eq_zero hn
    rw [this, List.append_nil]
    exact ⟨ho, List.Perm.refl _⟩
  | succ n ih =>
    intro r o hk hn ho
    cases hb : r.takeB with
    | false =>
      have := Wh.take_none hk hb
      unfold Wh.cnt at hn
      rw [this] at hn
      simp at hn
    | true =>
      have ht := Wh.take_is hb
      have hc := Wh.cnt_take hb
      rw [drain, if_pos hb]
      obtain ⟨h1, h2⟩ := ih r.take (hput o r.takeD) ht.1 (by omega) (hput_ho ho)
      refine ⟨h1, h2.trans ?_⟩
      refine ((hput_perm o r.takeD).append_right _).trans ?_
      rw [List.cons_append]
      refine List.perm_middle.symm.trans ?_
      exact List.Perm.append_left o ht.2.1
theorem toH_is {r : Wh} (h : r.ok = true) : hok (toH r) = true ∧ (toH r).Perm r.slots.flatten := by
  unfold toH
  rw [if_pos h]
  obtain ⟨h1, h2⟩ := drain_is r.cnt r [] h rfl (fun j _ hj => by simp at hj)
  rw [List.nil_append] at h2
  obtain ⟨-, hs, h60, hall⟩ := Wh.ok_is.1 h
  exact ⟨hok_is.2 ⟨by rw [h2.length_eq]; exact h60, fun x hx => hall x (h2.subset hx), h2.nodup_iff.2 hs.nodup, h1⟩, h2⟩
/-- A heap and a wheel of the same dues tell the same first one, and what is left is the same again. -/
theorem heap_wheel {l : List Du} {r : Wh} (hl : hok l = true) (hr : r.ok = true) (hp : l.Perm r.slots.flatten) :
    mayTake l = r.takeB ∧ takeD l = r.takeD ∧ (r.takeB = true → hok (takeH l) = true ∧ r.take.ok = true ∧ (takeH l).Perm r.take.slots.flatten) := by
  cases hb : r.takeB with
  | false =>
    have h0 := Wh.take_none hr hb
    rw [h0] at hp
    have hl0 : l = [] := hp.eq_nil
    subst hl0
    have hm : mayTake [] = false := by unfold mayTake; simp
    refine ⟨hm, ?_, fun h => by cases h⟩
    unfold takeD Wh.takeD
    rw [hm, hb]
    rfl
  | true =>
    have ht := Wh.take_is hb
    have hl0 : 0 < l.length := by rw [hp.length_eq, ← ht.2.1.length_eq]; simp
    have hm : mayTake l = true := mayTake_iff.2 ⟨hl, hl0⟩
    have hh := htake_hok hm
    have e : duAt l 0 = r.takeD := first_same hp hh.2.2.2.2 (ht.2.1.subset (List.mem_cons_self ..)) hh.2.2.1 ht.2.2.1
    refine ⟨hm, ?_, fun _ => ?_⟩
    · unfold takeD
      rw [if_pos hm, e]
    · unfold takeH
      rw [if_pos hm]
      refine ⟨hh.1, ht.1, ?_⟩
      have h1 : (duAt l 0 :: htake l).Perm (r.takeD :: r.take.slots.flatten) := hh.2.1.trans (hp.trans ht.2.1.symm)
      rw [e] at h1
      exact h1.cons_inv
end Go.Proofs.Ytdoijemkbjkeeaa

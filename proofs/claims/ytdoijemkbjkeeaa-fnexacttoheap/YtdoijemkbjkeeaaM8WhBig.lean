import Derived.Test.YtdoijemkbjkeeaaM3WhFn
import Derived.Test.YtdoijemkbjkeeaaWhHp
/-
  A heap turned into a wheel, as plain functions. By the verifier.
-/
namespace Go.Proofs.Ytdoijemkbjkeeaa
open Go.RowKit

def toWs (step : Int) (l : List Du) : Wh := l.foldl Wh.into ⟨step, List.replicate 8 []⟩
def toWB (l : List Du) (step : Int) : Bool := hok l && inB 1 1000 step
def toW (l : List Du) (step : Int) : Wh := if toWB l step = true then toWs step l else ⟨0, []⟩
theorem toWs_next {step : Int} {l : List Du} {k : Nat} (h : k < l.length) : toWs step (l.take (k + 1)) = (toWs step (l.take k)).into (duAt l k) := by
  unfold toWs
  rw [List.take_succ_eq_append_getElem h, List.foldl_append, duAt_lt h]
  rfl
theorem toWs_is {step : Int} {l : List Du} (hs : 1 ≤ step ∧ step ≤ 1000) (hk : hok l = true) : ∀ k, k ≤ l.length → (toWs step (l.take k)).ok = true ∧ (toWs step (l.take k)).slots.flatten.Perm (l.take k) ∧ (toWs step (l.take k)).step = step := by
  obtain ⟨h60, hall, hnd, -⟩ := hok_is.1 hk
  intro k
  induction k with
  | zero =>
    intro _
    have e : (List.replicate 8 ([] : List Du)).flatten = [] := rfl
    refine ⟨Wh.ok_is.2 ⟨hs, Slots.empty step, ?_, ?_⟩, ?_, rfl⟩
    · show (List.replicate 8 ([] : List Du)).flatten.length ≤ 60
      rw [e]; simp
    · intro x hx
      have hx : x ∈ (List.replicate 8 ([] : List Du)).flatten := hx
      rw [e] at hx; cases hx
    · show (List.replicate 8 ([] : List Du)).flatten.Perm (l.take 0)
      rw [e]; simp
  | succ k ih =>
    intro hl
    obtain ⟨g1, g2, g3⟩ := ih (by omega)
    have hkl : k < l.length := by omega
    rw [toWs_next hkl]
    have hm : duAt l k ∈ l := by rw [duAt_lt hkl]; exact List.getElem_mem hkl
    have hn : duAt l k ∉ (toWs step (l.take k)).slots.flatten := fun q => nodup_take.1 hnd k hkl (g2.subset q)
    obtain ⟨q1, q2⟩ := Wh.into_ok g1 (hall _ hm) hn (by rw [g2.length_eq, List.length_take]; omega)
    refine ⟨q1, ?_, g3⟩
    rw [List.take_succ_eq_append_getElem hkl, ← duAt_lt hkl]
    exact q2.trans ((g2.cons _).trans (List.perm_append_singleton _ _).symm)
end Go.Proofs.Ytdoijemkbjkeeaa

/-
  What comes of a small wheel or heap is small. By the verifier.
-/
namespace Go.Proofs.Ytdoijemkbjkeeaa
open Go.RowKit

theorem WhIn.cells {b t : Nat} {W : World} {v : Value} {x : Wh} (h : WhIn b t W v x) : ∃ p q, v = .agg #[.int .i64 x.step, .slice p x.slots.length q] := by
  obtain ⟨p, q, e, _⟩ := h
  exact ⟨p, q, e⟩
theorem Wh.ok_big {x : Wh} (h : x.ok = true) : x.big ≤ 1048576 := by
  have h1 := Wh.ok_iff.1 h
  unfold Wh.big
  rw [h1.1.2]
  omega
theorem Wh.zero_big : (⟨0, []⟩ : Wh).big ≤ 1048576 := by simp [Wh.big, dzSum]
theorem Wh.big_take {r : Wh} (h : r.big ≤ 1048576) : r.take.big ≤ 1048576 := by
  cases hb : r.takeB with
  | true => exact Wh.ok_big (Wh.take_is hb).1
  | false =>
    unfold Wh.takeB at hb
    unfold Wh.take
    by_cases hk : r.ok = true
    · rw [hk, Bool.true_and, decide_eq_false_iff_not] at hb
      rw [if_pos hk, if_neg hb]
      exact h
    · rw [if_neg hk]
      exact Wh.zero_big
theorem Wh.big_put {r : Wh} {d : Du} (h : r.big ≤ 1048576) : (r.put d).big ≤ 1048576 := by
  cases hb : r.putB d with
  | true => exact Wh.ok_big (Wh.put_is hb).1
  | false =>
    unfold Wh.putB at hb
    unfold Wh.put
    by_cases hk : r.ok = true
    · rw [hk, Bool.true_and] at hb
      rw [if_pos hk, if_neg (by rw [hb]; decide)]
      exact h
    · rw [if_neg hk]
      exact Wh.zero_big
theorem toW_big (l : List Du) (step : Int) : (toW l step).big ≤ 1048576 := by
  unfold toW
  by_cases hb : toWB l step = true
  · rw [if_pos hb]
    unfold toWB at hb
    rw [Bool.and_eq_true] at hb
    have := (toWs_is (inB_true.1 hb.2) hb.1 l.length (Nat.le_refl _)).1
    rw [List.take_length] at this
    exact Wh.ok_big this
  · rw [if_neg hb]
    exact Wh.zero_big
theorem toH_big {r : Wh} (_h : r.big ≤ 1048576) : (toH r).length ≤ 1048576 := by
  by_cases hk : r.ok = true
  · have := (hok_is.1 (toH_is hk).1).1
    omega
  · unfold toH
    rw [if_neg hk]
    simp
end Go.Proofs.Ytdoijemkbjkeeaa

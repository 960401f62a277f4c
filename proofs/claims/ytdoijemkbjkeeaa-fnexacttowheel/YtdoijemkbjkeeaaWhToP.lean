/-
  A heap turned into a wheel, as plain functions. By the verifier.
-/
import Derived.Test.YtdoijemkbjkeeaaM2WhFn
namespace Go.Proofs.Ytdoijemkbjkeeaa
open Go.RowKit

def toWs (step : Int) (l : List Du) : Wh := l.foldl Wh.into ⟨step, List.replicate 8 []⟩
def toWB (l : List Du) (step : Int) : Bool := hok l && inB 1 1000 step
def toW (l : List Du) (step : Int) : Wh := if toWB l step = true then toWs step l else ⟨0, []⟩
theorem toWs_next {step : Int} {l : List Du} {k : Nat} (h : k < l.length) : toWs step (l.take (k + 1)) = (toWs step (l.take k)).into (duAt l k) := by
  unfold toWs
  rw [List.take_succ_eq_append_getElem h, List.foldl_append, duAt_lt h]
  rfl
theorem toWs_is {step : Int} {l : List Du} (hs : 1 ≤ step ∧ step ≤ 1000) (hk : hok l = true) : ∀ k, k ≤ l.length → (toWs step (l.take k)).ok = true ∧ (toWs step (l.take k)).slots.flatten.Perm (l.take k) ∧ (toWs step (l.take k)).step = step := by
  obtain ⟨h60, hall, hnd, -⟩ := hok_is.1 hk
  intro k
  induction k with
  | zero =>
    intro _
    have e : (List.replicate 8 ([] : List Du)).flatten = [] := rfl
    refine ⟨Wh.ok_is.2 ⟨hs, Slots.empty step, ?_, ?_⟩, ?_, rfl⟩
    · show (List.replicate 8 ([] : List Du)).flatten.length ≤ 60
      rw [e]; simp
    · intro x hx
      have hx : x ∈ (List.replicate 8 ([] : List Du)).flatten := hx
      rw [e] at hx; cases hx
    · show (List.replicate 8 ([] : List Du)).flatten.Perm (l.take 0)
      rw [e]; simp
  | succ k ih =>
    intro hl
    obtain ⟨g1, g2, g3⟩ := ih (by omega)
    have hkl : k < l.length := by omega
    rw [toWs_next hkl]
    have hm : duAt l k ∈ l := by rw [duAt_lt hkl]; exact List.getElem_mem hkl
    have hn : duAt l k ∉ (toWs step (l.take k)).slots.flatten := fun q => nodup_take.1 hnd k hkl (g2.subset q)
    obtain ⟨q1, q2⟩ := Wh.into_ok g1 (hall _ hm) hn (by rw [g2.length_eq, List.length_take]; omega)
    refine ⟨q1, ?_, g3⟩
    rw [List.take_succ_eq_append_getElem hkl, ← duAt_lt hkl]
    exact q2.trans ((g2.cons _).trans (List.perm_append_singleton _ _).symm)
end Go.Proofs.Ytdoijemkbjkeeaa

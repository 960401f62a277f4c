/-
  Parts of lists of routes. By the verifier.
-/
import Derived.Test.YtilnjmpnhadidaaRtPlain
namespace Go.Proofs.Ytilnjmpnhadidaa
open Go.RowKit

theorem rts_take {w : World} {a : Option Addr} {l : List Rt} (h : RtsAt w a l) (k : Nat) : RtsAt w a (l.take k) := by
  intro i hi
  have hi' : i < l.length := by simp at hi; omega
  have hk : i < k := by simp at hi; omega
  obtain ⟨b, off, e, hb, c⟩ := h i hi'
  have er : rtAt (l.take k) i = rtAt l i := by simp [rtAt, hk]
  rw [er]
  exact ⟨b, off, e, hb, c⟩
theorem rts_drop {w : World} {b off : Nat} {l : List Rt} (h : RtsAt w (some ⟨b, off, none⟩) l) (k : Nat) : RtsAt w (some ⟨b, off + k * 3, none⟩) (l.drop k) := by
  intro i hi
  have hi' : k + i < l.length := by simp at hi; omega
  obtain ⟨b', off', e, hb, c⟩ := h (k + i) hi'
  cases e
  have er : rtAt (l.drop k) i = rtAt l (k + i) := by simp [rtAt]
  rw [er]
  refine ⟨b, off + k * 3, rfl, hb, ?_⟩
  rw [show off + k * 3 + i * 3 = off + (k + i) * 3 by omega]
  exact c
end Go.Proofs.Ytilnjmpnhadidaa

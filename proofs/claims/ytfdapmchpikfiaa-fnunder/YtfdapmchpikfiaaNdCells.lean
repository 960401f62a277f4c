/-
  Single cells of a list of Nodes put. By the verifier.
-/
import Derived.Test.YtfdapmchpikfiaaNdFn
namespace Go.Proofs.Ytfdapmchpikfiaa
open Go.RowKit

/-- One level put. -/
theorem ndcells_level (l : List Nd) (k : Nat) (size : Int) (hk : k < l.length) : (ndcells l).set (k * 5 + 3) (.int .i64 ((ndAt l k).pz.level - size)) = ndcells (l.set k ((ndAt l k).less size)) := by
  induction l generalizing k with
  | nil => simp at hk
  | cons x l ih =>
    cases k with
    | zero => simp [ndcells_cons, ndAt, Nd.less]
    | succ k =>
      have e : ndAt (x :: l) (k + 1) = ndAt l k := by simp [ndAt]
      rw [show (k + 1) * 5 + 3 = (k * 5 + 3) + 5 by omega, List.set_cons_succ, ndcells_cons, ndcells_cons, e, ← ih k (by simpa using hk)]
      rfl
theorem ndcells_purse (l : List Nd) (k : Nat) (u : Int) (p : Pz) (hk : k < l.length) (hu : (ndAt l k).up = u) :
    ((((ndcells l).set (k * 5 + 1) (.int .i64 p.rate)).set (k * 5 + 2) (.int .i64 p.burst)).set (k * 5 + 3) (.int .i64 p.level)).set (k * 5 + 4) (.int .i64 p.tm) = ndcells (l.set k ⟨u, p⟩) := by
  induction l generalizing k with
  | nil => simp at hk
  | cons x l ih =>
    cases k with
    | zero =>
      have e : x.up = u := by simpa [ndAt] using hu
      simp [ndcells_cons, e]
    | succ k =>
      rw [show (k + 1) * 5 = k * 5 + 5 by omega, List.set_cons_succ, ndcells_cons, ndcells_cons, ← ih k (by simpa using hk) (by simpa [ndAt] using hu)]
      rfl
/-- One Up put. -/
theorem ndcells_up (l : List Nd) (k : Nat) (u : Int) (hk : k < l.length) : (ndcells l).set (k * 5) (.int .i64 u) = ndcells (l.set k ⟨u, (ndAt l k).pz⟩) := by
  induction l generalizing k with
  | nil => simp at hk
  | cons x l ih =>
    cases k with
    | zero => simp [ndcells_cons, ndAt]
    | succ k =>
      have e : ndAt (x :: l) (k + 1) = ndAt l k := by simp [ndAt]
      rw [show (k + 1) * 5 = k * 5 + 5 by omega, List.set_cons_succ, ndcells_cons, ndcells_cons, e, ← ih k (by simpa using hk)]
      rfl
end Go.Proofs.Ytfdapmchpikfiaa

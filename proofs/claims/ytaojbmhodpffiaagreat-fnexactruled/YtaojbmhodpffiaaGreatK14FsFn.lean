/-
  Flows as plain data: when they are right, who begins when, who is chosen, who is served. By the verifier.
-/
import Derived.Test.YtaojbmhodpffiaaGreatK4FsPlain
namespace Go.Proofs.YtaojbmhodpffiaaGreat
open Go.RowKit

def szAt (l : List Int) (j : Nat) : Int := l[j]?.getD 0
def Fw.ok (x : Fw) : Bool := inB 1 10 x.weight && (inB 0 1125899906842624 x.finish && (inB 0 40 (x.sizes.length : Int) && x.sizes.all (inB 1 2000)))
def Fs.ok (f : Fs) : Bool := inB 0 1125899906842624 f.now && (inB 1 8 (f.flows.length : Int) && f.flows.all Fw.ok)
theorem Fw.ok_iff {x : Fw} : x.ok = true ↔ (1 ≤ x.weight ∧ x.weight ≤ 10) ∧ (0 ≤ x.finish ∧ x.finish ≤ 1125899906842624) ∧ x.sizes.length ≤ 40 ∧ ∀ y ∈ x.sizes, 1 ≤ y ∧ y ≤ 2000 := by
  unfold Fw.ok
  simp only [Bool.and_eq_true, inB_true, List.all_eq_true]
  constructor
  · rintro ⟨h1, h2, h3, h4⟩
    exact ⟨h1, h2, by omega, h4⟩
  · rintro ⟨h1, h2, h3, h4⟩
    exact ⟨h1, h2, by omega, h4⟩
theorem Fs.ok_iff {f : Fs} : f.ok = true ↔ (0 ≤ f.now ∧ f.now ≤ 1125899906842624) ∧ (1 ≤ f.flows.length ∧ f.flows.length ≤ 8) ∧ ∀ x ∈ f.flows, x.ok = true := by
  unfold Fs.ok
  simp only [Bool.and_eq_true, inB_true, List.all_eq_true]
  constructor
  · rintro ⟨h1, h2, h3⟩
    exact ⟨h1, by omega, h3⟩
  · rintro ⟨h1, h2, h3⟩
    exact ⟨h1, by omega, h3⟩
theorem Fs.ok_at {f : Fs} (h : f.ok = true) {i : Nat} (hi : i < f.flows.length) : (fwAt f.flows i).ok = true := by
  rw [fwAt_lt hi]
  exact (Fs.ok_iff.1 h).2.2 _ (List.getElem_mem hi)
def Fs.waits (f : Fs) (i : Nat) : Bool := decide (0 < (fwAt f.flows i).sizes.length)
/-- One more of it, at a time. -/
def Fw.more (x : Fw) (now size : Int) : Fw := ⟨x.weight, if x.sizes.length = 0 then max x.finish now else x.finish, x.sizes ++ [size]⟩
end Go.Proofs.YtaojbmhodpffiaaGreat

/-
  Trimmed, then Paired, and so on, as plain data. By the verifier.
-/
import Derived.Test.YtilnjmpnhadidaaCpPairM
namespace Go.Proofs.Ytilnjmpnhadidaa
open Go.RowKit

def stepL (l : List Rt) : List Rt := pairL (trimL l)
def compF : Nat → List Rt → List Rt
  | 0, l => l
  | n + 1, l => if (stepL l).length < l.length then compF n (stepL l) else l
def compL (l : List Rt) : List Rt := compF l.length l
theorem compF_more : ∀ (n : Nat) (l : List Rt), l.length ≤ n → compF n l = compF l.length l := by
  intro n
  induction n using Nat.strongRecOn with
  | _ n ih =>
    intro l hl
    cases n with
    | zero =>
      have : l.length = 0 := by omega
      rw [this]
    | succ n =>
      cases hll : l.length with
      | zero =>
        show (if (stepL l).length < l.length then compF n (stepL l) else l) = l
        rw [if_neg (by omega)]
      | succ m =>
        show (if (stepL l).length < l.length then compF n (stepL l) else l) = (if (stepL l).length < l.length then compF m (stepL l) else l)
        by_cases h : (stepL l).length < l.length
        · rw [if_pos h, if_pos h, ih n (by omega) _ (by omega), ← ih m (by omega) _ (by omega)]
        · rw [if_neg h, if_neg h]
theorem comp_step {l : List Rt} (h : (stepL l).length < l.length) : compL l = compL (stepL l) := by
  unfold compL
  cases hll : l.length with
  | zero => omega
  | succ m =>
    show (if (stepL l).length < l.length then compF m (stepL l) else l) = _
    rw [if_pos h]
    exact compF_more m _ (by omega)
theorem comp_end {l : List Rt} (h : ¬ (stepL l).length < l.length) : compL l = l := by
  unfold compL
  cases hll : l.length with
  | zero => rfl
  | succ m =>
    show (if (stepL l).length < l.length then compF m (stepL l) else l) = _
    rw [if_neg h]
theorem step_ok {l : List Rt} (h : rtsOk l = true) : rtsOk (stepL l) = true := pair_ok (trim_ok h).1
theorem step_length {l : List Rt} (h : rtsOk l = true) : (stepL l).length ≤ l.length := by
  have h1 := (trim_ok h).2
  have h2 := pair_length (fine_of (trim_ok h).1)
  unfold stepL
  omega
/-- Where there are not fewer, nothing was done. -/
theorem step_same {l : List Rt} (h : rtsOk l = true) (he : (stepL l).length = l.length) : stepL l = l := by
  have h1 := (trim_ok h).2
  have hf := fine_of (trim_ok h).1
  have h2 := pair_length hf
  unfold stepL at he ⊢
  have h3 : trimL l = l := by
    unfold trimL
    exact List.length_filter_eq_length_iff.1 (by unfold trimL at h1 h2 he; omega) |> fun hh => List.filter_eq_self.2 hh
  rcases pair_or hf with ⟨_, p⟩ | ⟨_, e⟩
  · have := p.less
    omega
  · rw [e, h3]
theorem step_hop {l : List Rt} (h : rtsOk l = true) (x : Int) : hopL (stepL l) x = hopL l x := by
  unfold stepL
  rw [pair_hop (fine_of (trim_ok h).1), trim_hop (fine_of h)]
theorem comp_all : ∀ (n : Nat) (l : List Rt), l.length ≤ n → rtsOk l = true → rtsOk (compL l) = true ∧ (compL l).length ≤ l.length ∧ (∀ x, hopL (compL l) x = hopL l x) ∧ ¬ (stepL (compL l)).length < (compL l).length := by
  intro n
  induction n with
  | zero =>
    intro l hl hok
    have e : compL l = l := comp_end (by omega)
    rw [e]
    exact ⟨hok, Nat.le_refl _, fun _ => rfl, by omega⟩
  | succ n ih =>
    intro l hl hok
    by_cases h : (stepL l).length < l.length
    · obtain ⟨h1, h2, h3, h4⟩ := ih (stepL l) (by omega) (step_ok hok)
      rw [comp_step h]
      exact ⟨h1, by omega, fun x => by rw [h3, step_hop hok], h4⟩
    · rw [comp_end h]
      exact ⟨hok, Nat.le_refl _, fun _ => rfl, h⟩
theorem comp_again {l : List Rt} (h : rtsOk l = true) : compL (compL l) = compL l := comp_end (comp_all l.length l (Nat.le_refl _) h).2.2.2
/-- What Compact answers. -/
def compV (l : List Rt) : List Rt := if rtsOk l = true then compL l else []
theorem compV_length (l : List Rt) (h : l.length ≤ 1048576) : (compV l).length ≤ 1048576 := by
  unfold compV
  split
  · rename_i hok
    have := (comp_all l.length l (Nat.le_refl _) hok).2.1
    omega
  · simp
end Go.Proofs.Ytilnjmpnhadidaa

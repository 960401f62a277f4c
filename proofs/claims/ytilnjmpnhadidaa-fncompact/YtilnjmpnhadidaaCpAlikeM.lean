/-
  The two ways to say whether routes are alike come to one; where they are, they are at every address. By the verifier.
-/
import Derived.Test.YtilnjmpnhadidaaCpAlike
import Derived.Test.YtilnjmpnhadidaaCpPutI
namespace Go.Proofs.Ytilnjmpnhadidaa
open Go.RowKit

def atStep (xs : List Int) (r : Rt) : List Int := if endV r ≤ 4294967295 then insI (insI xs r.net) (endV r) else insI xs r.net
def atK (l : List Rt) (k : Nat) : List Int := (l.take k).foldl atStep [0]
theorem atK_succ {l : List Rt} {k : Nat} (hk : k < l.length) : atK l (k + 1) = atStep (atK l k) (rtAt l k) := by
  unfold atK
  rw [List.take_succ_eq_append_getElem hk, List.foldl_append, rtAt_lt hk]
  rfl
theorem atStep_mem {xs : List Int} {r : Rt} {z : Int} : z ∈ atStep xs r ↔ z ∈ xs ∨ z ∈ turnF r := by
  unfold atStep turnF
  by_cases h : endV r ≤ 4294967295
  · rw [if_pos h, if_pos h, insI_mem, insI_mem]
    simp only [List.mem_cons, List.not_mem_nil, or_false]
    constructor
    · rintro (h | h | h)
      · exact .inr (.inr h)
      · exact .inr (.inl h)
      · exact .inl h
    · rintro (h | h | h)
      · exact .inr (.inr h)
      · exact .inr (.inl h)
      · exact .inl h
  · rw [if_neg h, if_neg h, insI_mem]
    simp only [List.mem_cons, List.not_mem_nil, or_false]
    exact ⟨fun h => h.symm, fun h => h.symm⟩
theorem at_mem (l : List Rt) : ∀ (xs : List Int) (z : Int), z ∈ l.foldl atStep xs ↔ z ∈ xs ∨ z ∈ turnsL l := by
  induction l with
  | nil => intro xs z; simp [turnsL]
  | cons r l ih =>
    intro xs z
    rw [List.foldl_cons, ih, atStep_mem]
    unfold turnsL
    rw [List.flatMap_cons, List.mem_append]
    exact or_assoc
theorem insI_ge (xs : List Int) (x : Int) : xs.length ≤ (insI xs x).length := by
  unfold insI
  split
  · exact Nat.le_refl _
  · simp; omega
theorem atK_len (l : List Rt) : ∀ k, 1 ≤ (atK l k).length ∧ (atK l k).length ≤ 1 + 2 * k := by
  intro k
  induction k with
  | zero => unfold atK; simp
  | succ k ih =>
    by_cases hk : k < l.length
    · rw [atK_succ hk]
      unfold atStep
      have a1 := insI_ge (atK l k) (rtAt l k).net
      have a2 := insI_len (atK l k) (rtAt l k).net
      have a3 := insI_ge (insI (atK l k) (rtAt l k).net) (endV (rtAt l k))
      have a4 := insI_len (insI (atK l k) (rtAt l k).net) (endV (rtAt l k))
      split <;> omega
    · unfold atK at ih ⊢
      rw [List.take_of_length_le (by omega)] at ih ⊢
      omega
theorem zero_alike {a b : List Rt} (fa : Fine a) (fb : Fine b) (h : ∀ x ∈ turnsL (a ++ b), hopL a x = hopL b x) : hopL a 0 = hopL b 0 := by
  by_cases hx : ∃ r ∈ a ++ b, fitP r 0
  · obtain ⟨r, hr, hf⟩ := hx
    have hok : r.ok = true := (List.mem_append.1 hr).elim (fa.ok r) (fb.ok r)
    have := ((fit_range hok 0).1 hf).1
    have h0 := (ok_split hok).2.1.1
    have e : r.net = 0 := by omega
    refine h 0 ?_
    unfold turnsL
    rw [List.mem_flatMap]
    refine ⟨r, hr, ?_⟩
    unfold turnF
    rw [e]
    exact List.mem_cons_self
  · rw [hop_none fun x hx2 hf => hx ⟨x, List.mem_append.2 (.inl hx2), hf⟩, hop_none fun x hx2 hf => hx ⟨x, List.mem_append.2 (.inr hx2), hf⟩]
theorem at_all {a b : List Rt} (fa : Fine a) (fb : Fine b) : ((atK (a ++ b) (a ++ b).length).all fun x => decide (hopL a x = hopL b x)) = alikeB a b := by
  unfold alikeB atK
  rw [List.take_of_length_le (Nat.le_refl _)]
  rw [Bool.eq_iff_iff, List.all_eq_true, List.all_eq_true]
  constructor
  · intro h x hx
    exact h x ((at_mem _ _ _).2 (.inr hx))
  · intro h x hx
    rcases (at_mem _ _ _).1 hx with h1 | h1
    · have : x = 0 := by simpa using h1
      subst this
      rw [decide_eq_true_iff]
      exact zero_alike fa fb fun y hy => by have := h y hy; rwa [decide_eq_true_iff] at this
    · exact h x h1
/-- The last turn ahead of an address, or none. -/
theorem last_turn (T : List Int) (x : Int) : (∃ t ∈ T, t ≤ x ∧ ∀ s ∈ T, s ≤ x → s ≤ t) ∨ ∀ s ∈ T, ¬ s ≤ x := by
  induction T with
  | nil => exact .inr (by simp)
  | cons y T ih =>
    by_cases hy : y ≤ x
    · left
      rcases ih with ⟨t, ht, h1, h2⟩ | hn
      · by_cases hyt : y ≤ t
        · refine ⟨t, List.mem_cons_of_mem _ ht, h1, fun s hs hsx => ?_⟩
          rcases List.mem_cons.1 hs with rfl | hs
          · exact hyt
          · exact h2 s hs hsx
        · refine ⟨y, List.mem_cons_self, hy, fun s hs hsx => ?_⟩
          rcases List.mem_cons.1 hs with rfl | hs
          · exact Int.le_refl _
          · have := h2 s hs hsx; omega
      · refine ⟨y, List.mem_cons_self, hy, fun s hs hsx => ?_⟩
        rcases List.mem_cons.1 hs with rfl | hs
        · exact Int.le_refl _
        · exact absurd hsx (hn s hs)
    · rcases ih with ⟨t, ht, h1, h2⟩ | hn
      · left
        refine ⟨t, List.mem_cons_of_mem _ ht, h1, fun s hs hsx => ?_⟩
        rcases List.mem_cons.1 hs with rfl | hs
        · exact absurd hsx hy
        · exact h2 s hs hsx
      · right
        intro s hs
        rcases List.mem_cons.1 hs with rfl | hs
        · exact hy
        · exact hn s hs
theorem hop_same_fit {l : List Rt} {x y : Int} (h : ∀ r ∈ l, fitP r x ↔ fitP r y) : hopL l x = hopL l y := by
  unfold hopL
  have : ∀ s, l.foldl (hopStep x) s = l.foldl (hopStep y) s := by
    induction l with
    | nil => intro s; rfl
    | cons r l ih =>
      intro s
      rw [List.foldl_cons, List.foldl_cons]
      have e : hopStep x s r = hopStep y s r := by
        have := h r List.mem_cons_self
        unfold fitP at this
        unfold hopStep
        by_cases hh : fitB r.net r.bits x = true
        · rw [this.1 hh, hh]
        · have h2 : fitB r.net r.bits y = false := by
            cases e : fitB r.net r.bits y
            · rfl
            · exact absurd (this.2 e) hh
          have h3 : fitB r.net r.bits x = false := by
            cases e : fitB r.net r.bits x
            · rfl
            · exact absurd e hh
          rw [h2, h3]
      rw [e]
      exact ih (fun q hq => h q (List.mem_cons_of_mem _ hq)) _
  rw [this]
/-- Alike is alike at every address. -/
theorem alike_hop {a b : List Rt} (fa : Fine a) (fb : Fine b) (h : alikeB a b = true) (x : Int) (x1 : x ≤ 4294967295) : hopL a x = hopL b x := by
  unfold alikeB at h
  rw [List.all_eq_true] at h
  have ht : ∀ t ∈ turnsL (a ++ b), hopL a t = hopL b t := fun t ht => by have := h t ht; rwa [decide_eq_true_iff] at this
  have hok : ∀ r ∈ a ++ b, r.ok = true := fun r hr => (List.mem_append.1 hr).elim (fa.ok r) (fb.ok r)
  have hnet : ∀ r ∈ a ++ b, r.net ∈ turnsL (a ++ b) := fun r hr => by
    unfold turnsL
    rw [List.mem_flatMap]
    exact ⟨r, hr, by unfold turnF; exact List.mem_cons_self⟩
  have hend : ∀ r ∈ a ++ b, endV r ≤ 4294967295 → endV r ∈ turnsL (a ++ b) := fun r hr he => by
    unfold turnsL
    rw [List.mem_flatMap]
    exact ⟨r, hr, by unfold turnF; rw [if_pos he]; simp⟩
  rcases last_turn (turnsL (a ++ b)) x with ⟨t, h1, h2, h3⟩ | hn
  · have key : ∀ r ∈ a ++ b, fitP r x ↔ fitP r t := by
      intro r hr
      rw [fit_range (hok r hr), fit_range (hok r hr)]
      constructor
      · rintro ⟨p, q⟩
        exact ⟨h3 _ (hnet r hr) p, by omega⟩
      · rintro ⟨p, q⟩
        refine ⟨by omega, ?_⟩
        apply Classical.byContradiction
        intro hc
        have := h3 _ (hend r hr (by omega)) (by omega)
        omega
    rw [hop_same_fit (l := a) (y := t) fun r hr => key r (List.mem_append.2 (.inl hr)), hop_same_fit (l := b) (y := t) fun r hr => key r (List.mem_append.2 (.inr hr))]
    exact ht t h1
  · have none : ∀ r ∈ a ++ b, ¬ fitP r x := fun r hr hf => hn _ (hnet r hr) ((fit_range (hok r hr) x).1 hf).1
    rw [hop_none fun r hr => none r (List.mem_append.2 (.inl hr)), hop_none fun r hr => none r (List.mem_append.2 (.inr hr))]
/-- Same at every address is alike. -/
theorem alike_of {a b : List Rt} (h : ∀ x, hopL a x = hopL b x) : alikeB a b = true := by
  unfold alikeB
  rw [List.all_eq_true]
  intro x _
  rw [decide_eq_true_iff]
  exact h x
end Go.Proofs.Ytilnjmpnhadidaa

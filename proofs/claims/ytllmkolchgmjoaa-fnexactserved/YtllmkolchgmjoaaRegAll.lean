/-
  A region that draws its order and writes: each operation yields a value of which something is known until it is used up. By the verifier.
-/
import Derived.Test.YtllmkolchgmjoaaRegInv
namespace Go.Proofs.Ytllmkolchgmjoaa
open Go.RowKit

/-- What an operation waits for. -/
def waits (ops : Array Oper) (j : Nat) : List Nat := ((ops[j]?).map fun o => (o.after.toList.filter fun e => Region.binds .any e).map (·.on)).getD []
/-- Does j wait for i, by however many steps? -/
def reachN (ops : Array Oper) : Nat → Nat → Nat → Bool
  | 0, _, _ => false
  | n + 1, i, j => (waits ops j).any fun k => decide (k = i) || reachN ops n i k
def reaches (ops : Array Oper) (i j : Nat) : Bool := reachN ops ops.size i j
/-- What has come up came up behind what it waits for. -/
def ClosedL (ops : Array Oper) (L : Array Bool) : Prop := ∀ j k, L.getD j false = true → k ∈ waits ops j → L.getD k false = true
theorem reachN_listed {ops : Array Oper} {L : Array Bool} (hc : ClosedL ops L) : ∀ n i j, L.getD j false = true → reachN ops n i j = true → L.getD i false = true := by
  intro n
  induction n with
  | zero => intro i j _ h; cases h
  | succ n ih =>
    intro i j hj h
    unfold reachN at h
    rw [List.any_eq_true] at h
    obtain ⟨k, hk, h⟩ := h
    rw [Bool.or_eq_true, decide_eq_true_iff] at h
    have hkl := hc j k hj hk
    rcases h with rfl | h
    · exact hkl
    · exact ih i k hkl h
theorem reachN_ready {ops : Array Oper} {L : Array Bool} (hc : ClosedL ops L) {i : Nat} (hr : ∀ k, k ∈ waits ops i → L.getD k false = true) : ∀ n u, reachN ops n u i = true → L.getD u false = true := by
  intro n u h
  cases n with
  | zero => cases h
  | succ n =>
    unfold reachN at h
    rw [List.any_eq_true] at h
    obtain ⟨k, hk, h⟩ := h
    rw [Bool.or_eq_true, decide_eq_true_iff] at h
    have hkl := hr k hk
    rcases h with rfl | h
    · exact hkl
    · exact reachN_listed hc n u k hkl h
/-- All operations have a place of their own each. -/
def dstAll (ops : Array Oper) (size : Nat) : Bool := (List.range ops.size).all fun i => match dstAt ops i with
  | some d => decide (d < size) && (List.range ops.size).all fun j => decide (i = j) || !decide (dstAt ops j = some d)
  | none => false
theorem dst_all {ops : Array Oper} {N i : Nat} (h : dstAll ops N = true) (hi : i < ops.size) : ∃ d, dstAt ops i = some d ∧ d < N ∧ ∀ j, j < ops.size → i ≠ j → dstAt ops j ≠ some d := by
  unfold dstAll at h
  rw [List.all_eq_true] at h
  have h1 := h i (List.mem_range.2 (by omega))
  cases hd : dstAt ops i with
  | none => rw [hd] at h1; cases h1
  | some d =>
    rw [hd] at h1
    simp only [Bool.and_eq_true, decide_eq_true_eq, List.all_eq_true, List.mem_range, Bool.or_eq_true, Bool.not_eq_true', decide_eq_false_iff_not] at h1
    refine ⟨d, rfl, h1.1, fun j hj hne => ?_⟩
    rcases h1.2 j (by omega) with h2 | h2
    · exact absurd h2 hne
    · exact h2
/-- What no operation writes is as it was. -/
structure KeptA (ops : Array Oper) (a0 a : Act) : Prop where
  defers : a.defers = a0.defers
  size : a.tmps.size = a0.tmps.size
  same : ∀ k, (∀ i, i < ops.size → dstAt ops i ≠ some k) → a.tmps.getD k undef = a0.tmps.getD k undef
/-- No operation writes it. -/
def notDstA (ops : Array Oper) (k : Nat) : Bool := (List.range ops.size).all fun i => !decide (dstAt ops i = some k)
theorem KeptA.slot {ops : Array Oper} {a0 a : Act} (h : KeptA ops a0 a) (k : Nat) (hk : notDstA ops k = true) : a.tmps.getD k undef = a0.tmps.getD k undef := by
  refine h.same k fun i hi e => ?_
  unfold notDstA at hk
  rw [List.all_eq_true] at hk
  have := hk i (List.mem_range.2 hi)
  rw [e] at this
  simp at this

theorem region_all {P : Program} {id : Nat} {ops : Array Oper} {Q : Exit → Act → World → Prop} {a0 : Act} {w0 : World} (hm : P.follows .mixedOrders = true) (hb : edgesBack ops = true) (hdst : dstAll ops a0.tmps.size = true)
    (use : Nat → Nat) (I : World → Prop) (R : Nat → World → World → Prop) (Pr : Nat → World → Value → Prop)
    (hR : ∀ i j w w' v, i < ops.size → j < ops.size → i ≠ j → use j ≠ i → reaches ops i j = false → reaches ops (use j) i = false → Pr j w v → R i w w' → Pr j w' v) (h0 : I w0.drew)
    (hstep : ∀ i o, i < ops.size → ops[i]? = some o → ∀ a w, KeptA ops a0 a → I w → (∀ j d, j ∈ waits ops i → use j = i ∨ ops.size ≤ use j → dstAt ops j = some d → Pr j w (a.tmps.getD d undef)) → o.guard = none ∧ o.wp P a w (fun a' w' => ∃ v, a' = a.put o.dst v ∧ R i w w' ∧ I w' ∧ Pr i w' v) Q)
    (hend : ∀ a w, KeptA ops a0 a → I w → (∀ i d, ops.size ≤ use i → dstAt ops i = some d → Pr i w (a.tmps.getD d undef)) → Q .normal a w) :
    (Code.region id ops true).wp P Q a0 w0 := by
  have nolist : ∀ {L : Array Bool} {k : Nat}, L.size = ops.size → ops.size ≤ k → L.getD k false = false := by
    intro L k hs hk
    simp [Array.getD, show ¬ k < L.size by omega]
  have dlt : ∀ {i d}, dstAt ops i = some d → i < ops.size := by
    intro i d h
    apply Classical.byContradiction
    intro hn
    unfold dstAt at h
    rw [Array.getElem?_eq_none (by omega)] at h
    cases h
  refine region_inv hm (fun L a w => L.size = ops.size ∧ ClosedL ops L ∧ KeptA ops a0 a ∧ I w ∧ ∀ i d, L.getD i false = true → L.getD (use i) false = false → dstAt ops i = some d → Pr i w (a.tmps.getD d undef)) hb ⟨by simp, ?_, ⟨rfl, rfl, fun _ _ => rfl⟩, h0, ?_⟩ ?_ ?_
  · intro j k hj
    simp [Array.getD] at hj
  · intro i d hi
    simp [Array.getD] at hi
  · rintro L a w i o ⟨_, hc, hk, hI, hp⟩ hs ho hi hd
    have hlt : i < ops.size := (Array.getElem?_eq_some_iff.1 ho).1
    have hif : L.getD i false = false := by rw [getD_eq (by omega)] at hi ⊢; exact hi
    have hw : ∀ k, k ∈ waits ops i → L.getD k false = true := by
      intro k hk2
      unfold waits at hk2
      rw [ho] at hk2
      simp only [Option.map_some, Option.getD_some, List.mem_map, List.mem_filter] at hk2
      obtain ⟨e, ⟨he, hbi⟩, rfl⟩ := hk2
      exact hd e he hbi
    obtain ⟨hg, hwp⟩ := hstep i o hlt ho a w hk hI (fun j d hj hu hdj => hp j d (hw j hj) (by
      rcases hu with hu | hu
      · rw [hu]; exact hif
      · exact nolist hs hu) hdj)
    refine wpOp_step ho fun K' hK => ?_
    rw [if_pos (by simp [Region.wanted, hg])]
    refine Oper.wp_mono hK (Oper.wp_mono ?_ hwp)
    rintro a' w' ⟨v, rfl, hr, hI', hv⟩
    obtain ⟨d, hd1, hd2, hd3⟩ := dst_all hdst hlt
    have hod : o.dst = some d := by unfold dstAt at hd1; rw [ho] at hd1; exact hd1
    rw [hod]
    refine ⟨by rw [Array.size_setIfInBounds]; exact hs, ?_, ⟨hk.defers, ?_, ?_⟩, hI', ?_⟩
    · intro j k hj hk2
      rw [listed_set (by omega)] at hj ⊢
      by_cases hki : k = i
      · rw [if_pos hki]
      rw [if_neg hki]
      by_cases hji : j = i
      · subst hji; exact hw k hk2
      · rw [if_neg hji] at hj
        exact hc j k hj hk2
    · show (a.tmps.setIfInBounds d v).size = _
      rw [Array.size_setIfInBounds]; exact hk.size
    · intro k hk2
      rw [put_getD _ _ _ _ (by rw [hk.size]; exact hd2), if_neg (fun e => hk2 i hlt (by rw [e]; exact hd1))]
      exact hk.same k hk2
    · intro j dj hlj huj hdj
      rw [put_getD _ _ _ _ (by rw [hk.size]; exact hd2)]
      rw [listed_set (by omega)] at hlj huj
      by_cases hij : j = i
      · subst hij
        rw [hd1] at hdj
        cases hdj
        rw [if_pos rfl]
        exact hv
      · rw [if_neg hij] at hlj
        have hui : use j ≠ i := by
          intro e
          rw [if_pos e] at huj
          cases huj
        rw [if_neg hui] at huj
        rw [if_neg (fun e => hd3 j (dlt hdj) (fun e2 => hij e2.symm) (by rw [hdj, e]))]
        refine hR i j w w' _ hlt (dlt hdj) (fun e => hij e.symm) hui ?_ ?_ (hp j dj hlj huj hdj) hr
        · cases hre : reaches ops i j with
          | false => rfl
          | true => rw [reachN_listed hc _ i j hlj hre] at hif; cases hif
        · cases hre : reaches ops (use j) i with
          | false => rfl
          | true => rw [reachN_ready hc hw _ _ hre] at huj; cases huj
  · rintro L a w ⟨_, _, hk, hI, hp⟩ hs hall
    refine hend a w hk hI fun i d hu hd => hp i d ?_ (nolist hs hu) hd
    have := hall i (dlt hd)
    rw [getD_eq (by rw [hs]; exact dlt hd)] at this ⊢
    exact this
end Go.Proofs.Ytllmkolchgmjoaa

/-
  Behind a region that draws its order and writes: the activation, slot by slot. By the verifier.
-/
import Derived.Test.YtllmkolchgmjoaaRegAll
namespace Go.Proofs.Ytllmkolchgmjoaa
open Go.RowKit

/-- The slots that stay, and those that do not. -/
def pickS : List Bool → List Value → (Nat → Value) → Nat → List Value
  | true :: ds, t :: ts, f, i => t :: pickS ds ts f (i + 1)
  | false :: ds, _ :: ts, f, i => f i :: pickS ds ts f (i + 1)
  | _, _, _, _ => []
theorem pickS_len : ∀ (ds : List Bool) (ts : List Value) (f : Nat → Value) (i : Nat), ds.length = ts.length → (pickS ds ts f i).length = ts.length
  | [], [], _, _, _ => rfl
  | true :: ds, t :: ts, f, i, h => by
    have := pickS_len ds ts f (i + 1) (by simpa using h)
    simp [pickS, this]
  | false :: ds, t :: ts, f, i, h => by
    have := pickS_len ds ts f (i + 1) (by simpa using h)
    simp [pickS, this]
  | [], _ :: _, _, _, h => by simp at h
  | _ :: _, [], _, _, h => by simp at h
theorem pickS_get : ∀ (ds : List Bool) (ts : List Value) (f : Nat → Value) (i j : Nat), ds.length = ts.length → j < ts.length → (pickS ds ts f i)[j]? = if ds[j]? = some true then ts[j]? else some (f (i + j))
  | [], [], _, _, _, _, h => by simp at h
  | true :: ds, t :: ts, f, i, 0, _, _ => by simp [pickS]
  | false :: ds, t :: ts, f, i, 0, _, _ => by simp [pickS]
  | true :: ds, t :: ts, f, i, j + 1, h, hj => by
    have := pickS_get ds ts f (i + 1) j (by simpa using h) (by simpa using hj)
    simp only [pickS, List.getElem?_cons_succ, this, show i + 1 + j = i + (j + 1) by omega]
  | false :: ds, t :: ts, f, i, j + 1, h, hj => by
    have := pickS_get ds ts f (i + 1) j (by simpa using h) (by simpa using hj)
    simp only [pickS, List.getElem?_cons_succ, this, show i + 1 + j = i + (j + 1) by omega]
  | [], _ :: _, _, _, _, h, _ => by simp at h
  | _ :: _, [], _, _, _, h, _ => by simp at h
theorem KeptA.pick {ops : Array Oper} {a0 a : Act} (h : KeptA ops a0 a) (ds : List Bool) (hd : (List.range a0.tmps.size).map (notDstA ops) = ds) :
    a = { tmps := (pickS ds a0.tmps.toList (fun k => a.tmps.getD k undef) 0).toArray, defers := a0.defers } := by
  obtain ⟨t, d⟩ := a
  have hdf : d = a0.defers := h.defers
  have hs : t.size = a0.tmps.size := h.size
  subst hdf
  have hl : ds.length = a0.tmps.toList.length := by rw [← hd]; simp
  congr 1
  apply Array.ext'
  apply List.ext_getElem?
  intro j
  by_cases hj : j < a0.tmps.size
  · rw [List.toList_toArray, pickS_get ds _ _ 0 j hl (by simpa using hj), ← hd]
    have e1 : ((List.range a0.tmps.size).map (notDstA ops))[j]? = some (notDstA ops j) := by simp [hj]
    rw [e1]
    by_cases hn : notDstA ops j = true
    · rw [if_pos (by rw [hn])]
      have := h.slot j hn
      simp only [Array.getElem?_toList]
      have e2 : t[j]? = some (t.getD j undef) := by simp [Array.getD, show j < t.size by omega]
      have e3 : a0.tmps[j]? = some (a0.tmps.getD j undef) := by simp [Array.getD, hj]
      rw [e2, e3]
      exact congrArg some this
    · rw [if_neg (by intro e; exact hn (by simpa using e))]
      simp only [Array.getElem?_toList, Nat.zero_add]
      simp [Array.getD, show j < t.size by omega]
  · rw [List.getElem?_eq_none (by simp; omega), List.getElem?_eq_none (by rw [List.toList_toArray, pickS_len _ _ _ _ hl]; simp; omega)]
/-- Whatever writes this slot waits for operation i. -/
def stillB (ops : Array Oper) (i k : Nat) : Bool := (List.range ops.size).all fun j => !decide (dstAt ops j = some k) || (reaches ops i j || decide (j = i))
theorem region_all2 {P : Program} {id : Nat} {ops : Array Oper} {Q : Exit → Act → World → Prop} {a0 : Act} {w0 : World} (hm : P.follows .mixedOrders = true) (hb : edgesBack ops = true) (hdst : dstAll ops a0.tmps.size = true)
    (use : Nat → Nat) (I : World → Prop) (R : Nat → World → World → Prop) (Pr : Nat → World → Value → Prop)
    (hR : ∀ i j w w' v, i < ops.size → j < ops.size → i ≠ j → use j ≠ i → reaches ops i j = false → reaches ops (use j) i = false → Pr j w v → R i w w' → Pr j w' v) (h0 : I w0.drew)
    (hstep : ∀ i o, i < ops.size → ops[i]? = some o → ∀ a w, KeptA ops a0 a → (∀ k, stillB ops i k = true → a.tmps.getD k undef = a0.tmps.getD k undef) → I w → (∀ j d, j ∈ waits ops i → use j = i ∨ ops.size ≤ use j → dstAt ops j = some d → Pr j w (a.tmps.getD d undef)) → o.guard = none ∧ o.wp P a w (fun a' w' => ∃ v, a' = a.put o.dst v ∧ R i w w' ∧ I w' ∧ Pr i w' v) Q)
    (hend : ∀ a w, KeptA ops a0 a → I w → (∀ i d, ops.size ≤ use i → dstAt ops i = some d → Pr i w (a.tmps.getD d undef)) → Q .normal a w) :
    (Code.region id ops true).wp P Q a0 w0 := by
  have nolist : ∀ {L : Array Bool} {k : Nat}, L.size = ops.size → ops.size ≤ k → L.getD k false = false := by
    intro L k hs hk
    simp [Array.getD, show ¬ k < L.size by omega]
  have dlt : ∀ {i d}, dstAt ops i = some d → i < ops.size := by
    intro i d h
    apply Classical.byContradiction
    intro hn
    unfold dstAt at h
    rw [Array.getElem?_eq_none (by omega)] at h
    cases h
  refine region_inv hm (fun L a w => L.size = ops.size ∧ ClosedL ops L ∧ KeptA ops a0 a ∧ (∀ k, (∀ j, L.getD j false = true → dstAt ops j ≠ some k) → a.tmps.getD k undef = a0.tmps.getD k undef) ∧ I w ∧ ∀ i d, L.getD i false = true → L.getD (use i) false = false → dstAt ops i = some d → Pr i w (a.tmps.getD d undef)) hb ⟨by simp, ?_, ⟨rfl, rfl, fun _ _ => rfl⟩, fun _ _ => rfl, h0, ?_⟩ ?_ ?_
  · intro j k hj
    simp [Array.getD] at hj
  · intro i d hi
    simp [Array.getD] at hi
  · rintro L a w i o ⟨_, hc, hk, hst, hI, hp⟩ hs ho hi hd
    have hlt : i < ops.size := (Array.getElem?_eq_some_iff.1 ho).1
    have hif : L.getD i false = false := by rw [getD_eq (by omega)] at hi ⊢; exact hi
    have hw : ∀ k, k ∈ waits ops i → L.getD k false = true := by
      intro k hk2
      unfold waits at hk2
      rw [ho] at hk2
      simp only [Option.map_some, Option.getD_some, List.mem_map, List.mem_filter] at hk2
      obtain ⟨e, ⟨he, hbi⟩, rfl⟩ := hk2
      exact hd e he hbi
    obtain ⟨hg, hwp⟩ := hstep i o hlt ho a w hk (fun k hk2 => hst k fun j hlj hdj => by
      unfold stillB at hk2
      rw [List.all_eq_true] at hk2
      have h3 := hk2 j (List.mem_range.2 (dlt hdj))
      rw [hdj] at h3
      simp only [decide_true, Bool.not_true, Bool.false_or, Bool.or_eq_true, decide_eq_true_eq] at h3
      rcases h3 with h3 | h3
      · rw [reachN_listed hc _ i j hlj h3] at hif; cases hif
      · rw [h3, hif] at hlj; cases hlj) hI (fun j d hj hu hdj => hp j d (hw j hj) (by
      rcases hu with hu | hu
      · rw [hu]; exact hif
      · exact nolist hs hu) hdj)
    refine wpOp_step ho fun K' hK => ?_
    rw [if_pos (by simp [Region.wanted, hg])]
    refine Oper.wp_mono hK (Oper.wp_mono ?_ hwp)
    rintro a' w' ⟨v, rfl, hr, hI', hv⟩
    obtain ⟨d, hd1, hd2, hd3⟩ := dst_all hdst hlt
    have hod : o.dst = some d := by unfold dstAt at hd1; rw [ho] at hd1; exact hd1
    rw [hod]
    refine ⟨by rw [Array.size_setIfInBounds]; exact hs, ?_, ⟨hk.defers, ?_, ?_⟩, ?_, hI', ?_⟩
    · intro j k hj hk2
      rw [listed_set (by omega)] at hj ⊢
      by_cases hki : k = i
      · rw [if_pos hki]
      rw [if_neg hki]
      by_cases hji : j = i
      · subst hji; exact hw k hk2
      · rw [if_neg hji] at hj
        exact hc j k hj hk2
    · show (a.tmps.setIfInBounds d v).size = _
      rw [Array.size_setIfInBounds]; exact hk.size
    · intro k hk2
      rw [put_getD _ _ _ _ (by rw [hk.size]; exact hd2), if_neg (fun e => hk2 i hlt (by rw [e]; exact hd1))]
      exact hk.same k hk2
    · intro k hk2
      rw [put_getD _ _ _ _ (by rw [hk.size]; exact hd2), if_neg (fun e => hk2 i (by rw [listed_set (by omega), if_pos rfl]) (by rw [e]; exact hd1))]
      refine hst k fun j hlj => hk2 j ?_
      rw [listed_set (by omega)]
      by_cases hji : j = i
      · rw [if_pos hji]
      · rw [if_neg hji]; exact hlj
    · intro j dj hlj huj hdj
      rw [put_getD _ _ _ _ (by rw [hk.size]; exact hd2)]
      rw [listed_set (by omega)] at hlj huj
      by_cases hij : j = i
      · subst hij
        rw [hd1] at hdj
        cases hdj
        rw [if_pos rfl]
        exact hv
      · rw [if_neg hij] at hlj
        have hui : use j ≠ i := by
          intro e
          rw [if_pos e] at huj
          cases huj
        rw [if_neg hui] at huj
        rw [if_neg (fun e => hd3 j (dlt hdj) (fun e2 => hij e2.symm) (by rw [hdj, e]))]
        refine hR i j w w' _ hlt (dlt hdj) (fun e => hij e.symm) hui ?_ ?_ (hp j dj hlj huj hdj) hr
        · cases hre : reaches ops i j with
          | false => rfl
          | true => rw [reachN_listed hc _ i j hlj hre] at hif; cases hif
        · cases hre : reaches ops (use j) i with
          | false => rfl
          | true => rw [reachN_ready hc hw _ _ hre] at huj; cases huj
  · rintro L a w ⟨_, _, hk, _, hI, hp⟩ hs hall
    refine hend a w hk hI fun i d hu hd => hp i d ?_ (nolist hs hu) hd
    have := hall i (dlt hd)
    rw [getD_eq (by rw [hs]; exact dlt hd)] at this ⊢
    exact this
end Go.Proofs.Ytllmkolchgmjoaa

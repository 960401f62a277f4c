/-
  A region that draws its order, whose operations are guarded and all wanted. By the verifier.
-/
import Derived.Test.YtllmkolchgmjoaaRegPick
namespace Go.Proofs.Ytllmkolchgmjoaa
open Go.RowKit

theorem region_all3 {P : Program} {id : Nat} {ops : Array Oper} {Q : Exit → Act → World → Prop} {a0 : Act} {w0 : World} (hm : P.follows .mixedOrders = true) (hb : edgesBack ops = true) (hdst : dstAll ops a0.tmps.size = true)
    (use : Nat → Nat) (I : World → Prop) (R : Nat → World → World → Prop) (Pr : Nat → World → Value → Prop)
    (hR : ∀ i j w w' v, i < ops.size → j < ops.size → i ≠ j → use j ≠ i → reaches ops i j = false → reaches ops (use j) i = false → Pr j w v → R i w w' → Pr j w' v) (h0 : I w0.drew)
    (hstep : ∀ i o, i < ops.size → ops[i]? = some o → ∀ a w, KeptA ops a0 a → (∀ k, stillB ops i k = true → a.tmps.getD k undef = a0.tmps.getD k undef) → I w → (∀ j d, j ∈ waits ops i → use j = i ∨ ops.size ≤ use j → dstAt ops j = some d → Pr j w (a.tmps.getD d undef)) → Region.wanted o (yielded ops a.tmps) = true ∧ o.wp P a w (fun a' w' => ∃ v, a' = a.put o.dst v ∧ R i w w' ∧ I w' ∧ Pr i w' v) Q)
    (hend : ∀ a w, KeptA ops a0 a → I w → (∀ i d, ops.size ≤ use i → dstAt ops i = some d → Pr i w (a.tmps.getD d undef)) → Q .normal a w) :
    (Code.region id ops true).wp P Q a0 w0 := by
  have nolist : ∀ {L : Array Bool} {k : Nat}, L.size = ops.size → ops.size ≤ k → L.getD k false = false := by
    intro L k hs hk
    simp [Array.getD, show ¬ k < L.size by omega]
  have dlt : ∀ {i d}, dstAt ops i = some d → i < ops.size := by
    intro i d h
    apply Classical.byContradiction
    intro hn
    unfold dstAt at h
    rw [Array.getElem?_eq_none (by omega)] at h
    cases h
  refine region_inv hm (fun L a w => L.size = ops.size ∧ ClosedL ops L ∧ KeptA ops a0 a ∧ (∀ k, (∀ j, L.getD j false = true → dstAt ops j ≠ some k) → a.tmps.getD k undef = a0.tmps.getD k undef) ∧ I w ∧ ∀ i d, L.getD i false = true → L.getD (use i) false = false → dstAt ops i = some d → Pr i w (a.tmps.getD d undef)) hb ⟨by simp, ?_, ⟨rfl, rfl, fun _ _ => rfl⟩, fun _ _ => rfl, h0, ?_⟩ ?_ ?_
  · intro j k hj
    simp [Array.getD] at hj
  · intro i d hi
    simp [Array.getD] at hi
  · rintro L a w i o ⟨_, hc, hk, hst, hI, hp⟩ hs ho hi hd
    have hlt : i < ops.size := (Array.getElem?_eq_some_iff.1 ho).1
    have hif : L.getD i false = false := by rw [getD_eq (by omega)] at hi ⊢; exact hi
    have hw : ∀ k, k ∈ waits ops i → L.getD k false = true := by
      intro k hk2
      unfold waits at hk2
      rw [ho] at hk2
      simp only [Option.map_some, Option.getD_some, List.mem_map, List.mem_filter] at hk2
      obtain ⟨e, ⟨he, hbi⟩, rfl⟩ := hk2
      exact hd e he hbi
    obtain ⟨hg, hwp⟩ := hstep i o hlt ho a w hk (fun k hk2 => hst k fun j hlj hdj => by
      unfold stillB at hk2
      rw [List.all_eq_true] at hk2
      have h3 := hk2 j (List.mem_range.2 (dlt hdj))
      rw [hdj] at h3
      simp only [decide_true, Bool.not_true, Bool.false_or, Bool.or_eq_true, decide_eq_true_eq] at h3
      rcases h3 with h3 | h3
      · rw [reachN_listed hc _ i j hlj h3] at hif; cases hif
      · rw [h3, hif] at hlj; cases hlj) hI (fun j d hj hu hdj => hp j d (hw j hj) (by
      rcases hu with hu | hu
      · rw [hu]; exact hif
      · exact nolist hs hu) hdj)
    refine wpOp_step ho fun K' hK => ?_
    rw [if_pos hg]
    refine Oper.wp_mono hK (Oper.wp_mono ?_ hwp)
    rintro a' w' ⟨v, rfl, hr, hI', hv⟩
    obtain ⟨d, hd1, hd2, hd3⟩ := dst_all hdst hlt
    have hod : o.dst = some d := by unfold dstAt at hd1; rw [ho] at hd1; exact hd1
    rw [hod]
    refine ⟨by rw [Array.size_setIfInBounds]; exact hs, ?_, ⟨hk.defers, ?_, ?_⟩, ?_, hI', ?_⟩
    · intro j k hj hk2
      rw [listed_set (by omega)] at hj ⊢
      by_cases hki : k = i
      · rw [if_pos hki]
      rw [if_neg hki]
      by_cases hji : j = i
      · subst hji; exact hw k hk2
      · rw [if_neg hji] at hj
        exact hc j k hj hk2
    · show (a.tmps.setIfInBounds d v).size = _
      rw [Array.size_setIfInBounds]; exact hk.size
    · intro k hk2
      rw [put_getD _ _ _ _ (by rw [hk.size]; exact hd2), if_neg (fun e => hk2 i hlt (by rw [e]; exact hd1))]
      exact hk.same k hk2
    · intro k hk2
      rw [put_getD _ _ _ _ (by rw [hk.size]; exact hd2), if_neg (fun e => hk2 i (by rw [listed_set (by omega), if_pos rfl]) (by rw [e]; exact hd1))]
      refine hst k fun j hlj => hk2 j ?_
      rw [listed_set (by omega)]
      by_cases hji : j = i
      · rw [if_pos hji]
      · rw [if_neg hji]; exact hlj
    · intro j dj hlj huj hdj
      rw [put_getD _ _ _ _ (by rw [hk.size]; exact hd2)]
      rw [listed_set (by omega)] at hlj huj
      by_cases hij : j = i
      · subst hij
        rw [hd1] at hdj
        cases hdj
        rw [if_pos rfl]
        exact hv
      · rw [if_neg hij] at hlj
        have hui : use j ≠ i := by
          intro e
          rw [if_pos e] at huj
          cases huj
        rw [if_neg hui] at huj
        rw [if_neg (fun e => hd3 j (dlt hdj) (fun e2 => hij e2.symm) (by rw [hdj, e]))]
        refine hR i j w w' _ hlt (dlt hdj) (fun e => hij e.symm) hui ?_ ?_ (hp j dj hlj huj hdj) hr
        · cases hre : reaches ops i j with
          | false => rfl
          | true => rw [reachN_listed hc _ i j hlj hre] at hif; cases hif
        · cases hre : reaches ops (use j) i with
          | false => rfl
          | true => rw [reachN_ready hc hw _ _ hre] at huj; cases huj
  · rintro L a w ⟨_, _, hk, _, hI, hp⟩ hs hall
    refine hend a w hk hI fun i d hu hd => hp i d ?_ (nolist hs hu) hd
    have := hall i (dlt hd)
    rw [getD_eq (by rw [hs]; exact dlt hd)] at this ⊢
    exact this
theorem wanted_of {ops : Array Oper} {o : Oper} {a : Act} {j d : Nat} {b : Bool} (hg : o.guard = some (j, b)) (hd : dstAt ops j = some d) (hv : a.tmps.getD d undef = .bool b) : Region.wanted o (yielded ops a.tmps) = true := by
  unfold dstAt at hd
  have h1 : a.tmps[d]? = some (.bool b) := by
    cases h : a.tmps[d]? with
    | none => rw [Array.getD_eq_getD_getElem?, h] at hv; cases hv
    | some x => rw [Array.getD_eq_getD_getElem?, h] at hv; exact congrArg some hv
  simp [Region.wanted, hg, yielded, hd, h1]
theorem wanted_none {ops : Array Oper} {o : Oper} {a : Act} (hg : o.guard = none) : Region.wanted o (yielded ops a.tmps) = true := by simp [Region.wanted, hg]
/-- A call by its contract, as an operation. -/
theorem op_callB {P : Program} {o : Oper} {a : Act} {w : World} {K : Act → World → Prop} {Q : Exit → Act → World → Prop} {f : FuncId} {args : Array Value} (hrun : (execOp a.eval o).run P w = .ok (.enter f args) w) {post : Ending → World → Prop}
    (hc : Calls P f args w post) (h : ∀ e w', post e w' → ∃ v, e = .returned v ∧ K (a.put o.dst v) w') : o.wp P a w K Q := by
  unfold Oper.wp
  rw [hrun, Oper.upon_enter]
  refine hc.mono fun e w' hh => ?_
  obtain ⟨v, rfl, hk⟩ := h e w' hh
  exact hk
end Go.Proofs.Ytllmkolchgmjoaa

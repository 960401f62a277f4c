import Derived.Test.YtllmkolchgmjoaaRegGhost
import Derived.Test.YtllmkolchgmjoaaRegPick
/-
  The same with what has come up so far as part of what holds all the while. By the verifier.
-/
namespace Go.Proofs.Ytllmkolchgmjoaa
open Go.RowKit

theorem region_lists {G : Type} {P : Program} {id : Nat} {ops : Array Oper} {Q : Exit → Act → World → Prop} {a0 : Act} {w0 : World} (hm : P.follows .mixedOrders = true) (hb : edgesBackB ops = true) (hdst : dstSome ops a0.tmps.size = true)
    (use : Nat → Nat) (I : (Nat → Bool) → G → World → Prop) (R : Nat → G → World → G → World → Prop) (Pr : Nat → G → World → Value → Prop)
    (hR : ∀ i j y y' w w' v, i < ops.size → j < ops.size → i ≠ j → use j ≠ i → reaches ops i j = false → reaches ops (use j) i = false → Pr j y w v → R i y w y' w' → Pr j y' w' v) (y0 : G) (h0 : I (fun _ => false) y0 w0.drew)
    (hstep : ∀ i o, i < ops.size → ops[i]? = some o → ∀ L a y w, L i = false → (∀ k, k ∈ waits ops i → L k = true) → (∀ k, reaches ops i k = true → L k = false) → KeptA ops a0 a → I L y w → (∀ j, j ∈ waits ops i → use j = i ∨ ops.size ≤ use j → Pr j y w (valAt ops a j)) → Region.wanted o (yielded ops a.tmps) = true ∧ o.wp P a w (fun a' w' => ∃ v y', a' = a.put o.dst v ∧ R i y w y' w' ∧ I (fun k => if k = i then true else L k) y' w' ∧ ∀ u, (o.dst ≠ none → u = v) → Pr i y' w' u) Q)
    (hend : ∀ L a y w, (∀ i, i < ops.size → L i = true) → KeptA ops a0 a → I L y w → (∀ i, i < ops.size → ops.size ≤ use i → Pr i y w (valAt ops a i)) → Q .normal a w) :
    (Code.region id ops true).wp P Q a0 w0 := by
  have nolist : ∀ {L : Array Bool} {k : Nat}, L.size = ops.size → ops.size ≤ k → L.getD k false = false := by
    intro L k hs hk
    simp [Array.getD, show ¬ k < L.size by omega]
  have llt : ∀ {L : Array Bool} {k : Nat}, L.size = ops.size → L.getD k false = true → k < ops.size := by
    intro L k hs hk
    apply Classical.byContradiction
    intro hn
    rw [nolist hs (by omega)] at hk
    cases hk
  refine region_invB hm (fun L a w => ∃ y, L.size = ops.size ∧ ClosedL ops L ∧ KeptA ops a0 a ∧ I (fun k => L.getD k false) y w ∧ ∀ i, L.getD i false = true → L.getD (use i) false = false → Pr i y w (valAt ops a i)) hb ⟨y0, by simp, ?_, ⟨rfl, rfl, fun _ _ => rfl⟩, ?_, ?_⟩ ?_ ?_
  · intro j k hj
    simp [Array.getD] at hj
  · have e : (fun k => (Array.replicate ops.size false).getD k false) = fun _ => false := by
      funext k
      by_cases hk : k < ops.size <;> simp [Array.getD, hk]
    rw [e]
    exact h0
  · intro i hi
    simp [Array.getD] at hi
  · rintro L a w i o ⟨y, _, hc, hk, hI, hp⟩ hs ho hi hd
    have hlt : i < ops.size := (Array.getElem?_eq_some_iff.1 ho).1
    have hif : L.getD i false = false := by rw [getD_eq (by omega)] at hi ⊢; exact hi
    have hw : ∀ k, k ∈ waits ops i → L.getD k false = true := by
      intro k hk2
      unfold waits at hk2
      rw [ho] at hk2
      simp only [Option.map_some, Option.getD_some, List.mem_map, List.mem_filter] at hk2
      obtain ⟨e, ⟨he, hbi⟩, rfl⟩ := hk2
      exact hd e he hbi
    obtain ⟨hg, hwp⟩ := hstep i o hlt ho (fun k => L.getD k false) a y w hif hw (fun k hr => by
      cases hlk : L.getD k false with
      | false => rfl
      | true => rw [reachN_listed hc _ i k hlk hr] at hif; cases hif) hk hI (fun j hj hu => hp j (hw j hj) (by
      rcases hu with hu | hu
      · rw [hu]; exact hif
      · exact nolist hs hu))
    refine wpOp_step ho fun K' hK => ?_
    rw [if_pos hg]
    refine Oper.wp_mono hK (Oper.wp_mono ?_ hwp)
    rintro a' w' ⟨v, y', rfl, hr, hI', hv⟩
    have hoi : dstAt ops i = o.dst := by unfold dstAt; rw [ho]; rfl
    have closed : ClosedL ops (L.setIfInBounds i true) := by
      intro j k hj hk2
      rw [listed_set (by omega)] at hj ⊢
      by_cases hki : k = i
      · rw [if_pos hki]
      rw [if_neg hki]
      by_cases hji : j = i
      · subst hji; exact hw k hk2
      · rw [if_neg hji] at hj
        exact hc j k hj hk2
    have kept : KeptA ops a0 (a.put o.dst v) := by
      cases hod : o.dst with
      | none => exact hk
      | some d =>
        have hd1 : dstAt ops i = some d := hoi.trans hod
        have hd2 := (dst_some hdst hlt hd1).1
        refine ⟨hk.defers, ?_, fun k hk2 => ?_⟩
        · show (a.tmps.setIfInBounds d v).size = _
          rw [Array.size_setIfInBounds]; exact hk.size
        · rw [put_getD _ _ _ _ (by rw [hk.size]; exact hd2), if_neg (fun e => hk2 i hlt (by rw [e]; exact hd1))]
          exact hk.same k hk2
    have old : ∀ j, j < ops.size → j ≠ i → valAt ops (a.put o.dst v) j = valAt ops a j := by
      intro j hj hne
      unfold valAt
      cases hod : o.dst with
      | none => rfl
      | some d =>
        have hd1 : dstAt ops i = some d := hoi.trans hod
        obtain ⟨hd2, hd3⟩ := dst_some hdst hlt hd1
        cases hdj : dstAt ops j with
        | none => rfl
        | some dj =>
          show (a.put (some d) v).tmps.getD dj undef = a.tmps.getD dj undef
          rw [put_getD _ _ _ _ (by rw [hk.size]; exact hd2), if_neg (fun e => hd3 j hj (fun e2 => hne e2.symm) (by rw [hdj, e]))]
    have eL : (fun k => (L.setIfInBounds i true).getD k false) = fun k => if k = i then true else L.getD k false := by
      funext k
      exact listed_set (by omega)
    refine ⟨y', by rw [Array.size_setIfInBounds]; exact hs, closed, kept, by rw [eL]; exact hI', ?_⟩
    intro j hlj huj
    rw [listed_set (by omega)] at hlj huj
    by_cases hij : j = i
    · subst hij
      refine hv _ fun hne => ?_
      unfold valAt
      rw [hoi]
      cases hod : o.dst with
      | none => exact absurd hod hne
      | some d =>
        have hd1 : dstAt ops j = some d := hoi.trans hod
        show (a.put (some d) v).tmps.getD d undef = v
        rw [put_getD _ _ _ _ (by rw [hk.size]; exact (dst_some hdst hlt hd1).1), if_pos rfl]
    · rw [if_neg hij] at hlj
      have hjl := llt hs hlj
      have hui : use j ≠ i := by
        intro e
        rw [if_pos e] at huj
        cases huj
      rw [if_neg hui] at huj
      rw [old j hjl hij]
      refine hR i j y y' w w' _ hlt hjl (fun e => hij e.symm) hui ?_ ?_ (hp j hlj huj) hr
      · cases hre : reaches ops i j with
        | false => rfl
        | true => rw [reachN_listed hc _ i j hlj hre] at hif; cases hif
      · cases hre : reaches ops (use j) i with
        | false => rfl
        | true => rw [reachN_ready hc hw _ _ hre] at huj; cases huj
  · rintro L a w ⟨y, _, _, hk, hI, hp⟩ hs hall
    have all : ∀ i, i < ops.size → L.getD i false = true := by
      intro i hi
      have := hall i hi
      rw [getD_eq (by rw [hs]; exact hi)] at this ⊢
      exact this
    exact hend (fun k => L.getD k false) a y w all hk hI fun i hi hu => hp i (all i hi) (nolist hs hu)
end Go.Proofs.Ytllmkolchgmjoaa

/-
  Single operations of a region: a value told, a slot moved, a check of a pointer. By the verifier.
-/
namespace Go.Proofs.Ytllmkolchgmjoaa
open Go.RowKit

theorem op_valY {P : Program} {o : Oper} {a : Act} {w w' : World} {K : Act → World → Prop} {Q : Exit → Act → World → Prop} {v : Value} (hr : (execOp a.eval o).run P w = .ok (.value v) w') (h : K (a.put o.dst v) w') : o.wp P a w K Q := by
  unfold Oper.wp
  rw [hr]
  exact h
theorem op_skipY {P : Program} {o : Oper} {a : Act} {w w' : World} {K : Act → World → Prop} {Q : Exit → Act → World → Prop} (hr : (execOp a.eval o).run P w = .ok .skip w') (h : K (a.put o.dst undef) w') : o.wp P a w K Q := by
  unfold Oper.wp
  rw [hr]
  exact h
theorem op_moveY {P : Program} {o : Oper} {a : Act} {w : World} {K : Act → World → Prop} {Q : Exit → Act → World → Prop} (t : Tmp) (ho : o.op = .move (.tmp t)) (h : K (a.put o.dst (a.tmps.getD t undef)) w) : o.wp P a w K Q := by
  unfold Oper.wp
  simp [execOp, ho, Act.eval, Oper.upon]
  simpa using h
theorem op_nilY {P : Program} {o : Oper} {a : Act} {w : World} {K : Act → World → Prop} {Q : Exit → Act → World → Prop} (t : Tmp) (ho : o.op = .nilCheck (.tmp t)) {p : Addr} (hx : a.tmps.getD t undef = .pointer (some p)) (h : K (a.put o.dst (.pointer (some p))) w) : o.wp P a w K Q := by
  refine op_valY (v := .pointer (some p)) (w' := w) ?_ h
  simp only [execOp, ho]
  rw [show a.eval (.tmp t) = _ from hx]
  rfl
end Go.Proofs.Ytllmkolchgmjoaa

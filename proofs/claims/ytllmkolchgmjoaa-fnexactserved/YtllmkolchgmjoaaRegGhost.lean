/-
  A region that draws its order, lays variables and fills them: what is known of each operation's value until it is used up, with what was laid where as a companion. By the verifier.
-/
import Derived.Test.YtllmkolchgmjoaaRegGuard
namespace Go.Proofs.Ytllmkolchgmjoaa
open Go.RowKit

/-- Every edge that binds leads to an operation ahead of its own. -/
def edgesBackB (ops : Array Oper) : Bool := (List.range ops.size).all fun i => ((ops[i]?).map (·.after.all fun e => !Region.binds .any e || decide (e.on < i))).getD true
theorem all_listedB {ops : Array Oper} {L : Array Bool} (hb : edgesBackB ops = true) (hs : L.size = ops.size) (hr : Region.ready .any ops L = []) : ∀ i, i < ops.size → L.getD i true = true := by
  intro i
  induction i using Nat.strongRecOn with
  | _ i ih =>
    intro hi
    cases hl : L.getD i true with
    | true => rfl
    | false =>
      have : i ∈ Region.ready .any ops L := by
        unfold Region.ready
        rw [List.mem_filter, List.mem_range, Bool.and_eq_true, Bool.not_eq_true']
        refine ⟨hi, hl, ?_⟩
        rw [Array.getElem?_eq_getElem hi]
        simp only [Option.map_some, Option.getD_some, Array.all_eq_true', Bool.or_eq_true, Bool.not_eq_true']
        intro e he
        cases hbi : Region.binds .any e with
        | false => left; rfl
        | true =>
        right
        unfold edgesBackB at hb
        rw [List.all_eq_true] at hb
        have h2 := hb i (List.mem_range.2 hi)
        rw [Array.getElem?_eq_getElem hi] at h2
        simp only [Option.map_some, Option.getD_some, Array.all_eq_true', Bool.or_eq_true, Bool.not_eq_true', decide_eq_true_eq] at h2
        have h3 : e.on < i := by
          rcases h2 e he with h2 | h2
          · rw [hbi] at h2; cases h2
          · exact h2
        have h4 := ih e.on h3 (by omega)
        rw [getD_eq (by omega)] at h4 ⊢
        exact h4
      rw [hr] at this
      cases this
theorem wpAny_invB {P : Program} {ops : Array Oper} {Q : Exit → Act → World → Prop} (J : Array Bool → Act → World → Prop) (hb : edgesBackB ops = true)
    (hstep : ∀ L a w i o, J L a w → L.size = ops.size → ops[i]? = some o → L.getD i true = false → (∀ e, e ∈ o.after.toList → Region.binds .any e = true → L.getD e.on false = true) → wpOp P ops Q i (J (L.setIfInBounds i true)) a w)
    (hdone : ∀ L a w, J L a w → L.size = ops.size → (∀ i, i < ops.size → L.getD i true = true) → Q .normal a w) :
    ∀ fuel L a w, J L a w → L.size = ops.size → L.toList.count false ≤ fuel → wpAny P .any ops Q fuel L a w := by
  intro fuel
  induction fuel with
  | zero =>
    intro L a w hJ hs hc
    have hall : ∀ i, i < ops.size → L.getD i true = true := by
      intro i hi
      cases h : L.getD i true with
      | true => rfl
      | false => have := count_set (L := L) (by omega) h; omega
    refine ⟨?_, hdone L a w hJ hs hall⟩
    cases hr : Region.ready .any ops L with
    | nil => rfl
    | cons i rs =>
      have hm : i ∈ Region.ready .any ops L := by rw [hr]; exact List.mem_cons_self
      have := ready_mem hm
      rw [hall i this.1] at this
      cases this.2.1
  | succ fuel ih =>
    intro L a w hJ hs hc
    refine ⟨fun hr => hdone L a w hJ hs (all_listedB hb hs hr), fun i hi => ?_⟩
    obtain ⟨h1, h2, h3⟩ := ready_mem hi
    have ho : ops[i]? = some ops[i] := Array.getElem?_eq_getElem h1
    refine wpOp_mono (fun a' w' hJ' => ih _ a' w' hJ' (by rw [Array.size_setIfInBounds]; exact hs) ?_) (hstep L a w i _ hJ hs ho h2 (h3 _ ho))
    have := count_set (L := L) (by omega) h2
    omega

/-- The rule: what holds at first, what every operation keeps, what follows when all have come up. -/
theorem region_invB {P : Program} {id : Nat} {ops : Array Oper} {Q : Exit → Act → World → Prop} {a : Act} {w : World} (hm : P.follows .mixedOrders = true) (J : Array Bool → Act → World → Prop) (hb : edgesBackB ops = true)
    (h0 : J (Array.replicate ops.size false) a w.drew)
    (hstep : ∀ L a w i o, J L a w → L.size = ops.size → ops[i]? = some o → L.getD i true = false → (∀ e, e ∈ o.after.toList → Region.binds .any e = true → L.getD e.on false = true) → wpOp P ops Q i (J (L.setIfInBounds i true)) a w)
    (hdone : ∀ L a w, J L a w → L.size = ops.size → (∀ i, i < ops.size → L.getD i true = true) → Q .normal a w) : (Code.region id ops true).wp P Q a w :=
  wp_region_any hm (wpAny_invB J hb hstep hdone _ _ _ _ h0 (by simp) (by simp))

/-- An operation's value, where it has a place. -/
def valAt (ops : Array Oper) (a : Act) (i : Nat) : Value := match dstAt ops i with
  | some d => a.tmps.getD d undef
  | none => undef
/-- Each operation that has a place has one of its own. -/
def dstSome (ops : Array Oper) (size : Nat) : Bool := (List.range ops.size).all fun i => match dstAt ops i with
  | some d => decide (d < size) && (List.range ops.size).all fun j => decide (i = j) || !decide (dstAt ops j = some d)
  | none => true
theorem dst_some {ops : Array Oper} {N i d : Nat} (h : dstSome ops N = true) (hi : i < ops.size) (hd : dstAt ops i = some d) : d < N ∧ ∀ j, j < ops.size → i ≠ j → dstAt ops j ≠ some d := by
  unfold dstSome at h
  rw [List.all_eq_true] at h
  have h1 := h i (List.mem_range.2 (by omega))
  rw [hd] at h1
  simp only [Bool.and_eq_true, decide_eq_true_eq, List.all_eq_true, List.mem_range, Bool.or_eq_true, Bool.not_eq_true', decide_eq_false_iff_not] at h1
  refine ⟨h1.1, fun j hj hne => ?_⟩
  rcases h1.2 j (by omega) with h2 | h2
  · exact absurd h2 hne
  · exact h2

theorem region_ghost {G : Type} {P : Program} {id : Nat} {ops : Array Oper} {Q : Exit → Act → World → Prop} {a0 : Act} {w0 : World} (hm : P.follows .mixedOrders = true) (hb : edgesBackB ops = true) (hdst : dstSome ops a0.tmps.size = true)
    (use : Nat → Nat) (I : G → World → Prop) (R : Nat → G → World → G → World → Prop) (Pr : Nat → G → World → Value → Prop)
    (hR : ∀ i j y y' w w' v, i < ops.size → j < ops.size → i ≠ j → use j ≠ i → reaches ops i j = false → reaches ops (use j) i = false → Pr j y w v → R i y w y' w' → Pr j y' w' v) (y0 : G) (h0 : I y0 w0.drew)
    (hstep : ∀ i o, i < ops.size → ops[i]? = some o → ∀ a y w, KeptA ops a0 a → I y w → (∀ j, j ∈ waits ops i → use j = i ∨ ops.size ≤ use j → Pr j y w (valAt ops a j)) → o.guard = none ∧ o.wp P a w (fun a' w' => ∃ v y', a' = a.put o.dst v ∧ R i y w y' w' ∧ I y' w' ∧ ∀ u, (o.dst ≠ none → u = v) → Pr i y' w' u) Q)
    (hend : ∀ a y w, KeptA ops a0 a → I y w → (∀ i, i < ops.size → ops.size ≤ use i → Pr i y w (valAt ops a i)) → Q .normal a w) :
    (Code.region id ops true).wp P Q a0 w0 := by
  have nolist : ∀ {L : Array Bool} {k : Nat}, L.size = ops.size → ops.size ≤ k → L.getD k false = false := by
    intro L k hs hk
    simp [Array.getD, show ¬ k < L.size by omega]
  have llt : ∀ {L : Array Bool} {k : Nat}, L.size = ops.size → L.getD k false = true → k < ops.size := by
    intro L k hs hk
    apply Classical.byContradiction
    intro hn
    rw [nolist hs (by omega)] at hk
    cases hk
  refine region_invB hm (fun L a w => ∃ y, L.size = ops.size ∧ ClosedL ops L ∧ KeptA ops a0 a ∧ I y w ∧ ∀ i, L.getD i false = true → L.getD (use i) false = false → Pr i y w (valAt ops a i)) hb ⟨y0, by simp, ?_, ⟨rfl, rfl, fun _ _ => rfl⟩, h0, ?_⟩ ?_ ?_
  · intro j k hj
    simp [Array.getD] at hj
  · intro i hi
    simp [Array.getD] at hi
  · rintro L a w i o ⟨y, _, hc, hk, hI, hp⟩ hs ho hi hd
    have hlt : i < ops.size := (Array.getElem?_eq_some_iff.1 ho).1
    have hif : L.getD i false = false := by rw [getD_eq (by omega)] at hi ⊢; exact hi
    have hw : ∀ k, k ∈ waits ops i → L.getD k false = true := by
      intro k hk2
      unfold waits at hk2
      rw [ho] at hk2
      simp only [Option.map_some, Option.getD_some, List.mem_map, List.mem_filter] at hk2
      obtain ⟨e, ⟨he, hbi⟩, rfl⟩ := hk2
      exact hd e he hbi
    obtain ⟨hg, hwp⟩ := hstep i o hlt ho a y w hk hI (fun j hj hu => hp j (hw j hj) (by
      rcases hu with hu | hu
      · rw [hu]; exact hif
      · exact nolist hs hu))
    refine wpOp_step ho fun K' hK => ?_
    rw [if_pos (by simp [Region.wanted, hg])]
    refine Oper.wp_mono hK (Oper.wp_mono ?_ hwp)
    rintro a' w' ⟨v, y', rfl, hr, hI', hv⟩
    have hoi : dstAt ops i = o.dst := by unfold dstAt; rw [ho]; rfl
    have closed : ClosedL ops (L.setIfInBounds i true) := by
      intro j k hj hk2
      rw [listed_set (by omega)] at hj ⊢
      by_cases hki : k = i
      · rw [if_pos hki]
      rw [if_neg hki]
      by_cases hji : j = i
      · subst hji; exact hw k hk2
      · rw [if_neg hji] at hj
        exact hc j k hj hk2
    have kept : KeptA ops a0 (a.put o.dst v) := by
      cases hod : o.dst with
      | none => exact hk
      | some d =>
        have hd1 : dstAt ops i = some d := hoi.trans hod
        have hd2 := (dst_some hdst hlt hd1).1
        refine ⟨hk.defers, ?_, fun k hk2 => ?_⟩
        · show (a.tmps.setIfInBounds d v).size = _
          rw [Array.size_setIfInBounds]; exact hk.size
        · rw [put_getD _ _ _ _ (by rw [hk.size]; exact hd2), if_neg (fun e => hk2 i hlt (by rw [e]; exact hd1))]
          exact hk.same k hk2
    have old : ∀ j, j < ops.size → j ≠ i → valAt ops (a.put o.dst v) j = valAt ops a j := by
      intro j hj hne
      unfold valAt
      cases hod : o.dst with
      | none => rfl
      | some d =>
        have hd1 : dstAt ops i = some d := hoi.trans hod
        obtain ⟨hd2, hd3⟩ := dst_some hdst hlt hd1
        cases hdj : dstAt ops j with
        | none => rfl
        | some dj =>
          show (a.put (some d) v).tmps.getD dj undef = a.tmps.getD dj undef
          rw [put_getD _ _ _ _ (by rw [hk.size]; exact hd2), if_neg (fun e => hd3 j hj (fun e2 => hne e2.symm) (by rw [hdj, e]))]
    refine ⟨y', by rw [Array.size_setIfInBounds]; exact hs, closed, kept, hI', ?_⟩
    intro j hlj huj
    rw [listed_set (by omega)] at hlj huj
    by_cases hij : j = i
    · subst hij
      refine hv _ fun hne => ?_
      unfold valAt
      rw [hoi]
      cases hod : o.dst with
      | none => exact absurd hod hne
      | some d =>
        have hd1 : dstAt ops j = some d := hoi.trans hod
        show (a.put (some d) v).tmps.getD d undef = v
        rw [put_getD _ _ _ _ (by rw [hk.size]; exact (dst_some hdst hlt hd1).1), if_pos rfl]
    · rw [if_neg hij] at hlj
      have hjl := llt hs hlj
      have hui : use j ≠ i := by
        intro e
        rw [if_pos e] at huj
        cases huj
      rw [if_neg hui] at huj
      rw [old j hjl hij]
      refine hR i j y y' w w' _ hlt hjl (fun e => hij e.symm) hui ?_ ?_ (hp j hlj huj) hr
      · cases hre : reaches ops i j with
        | false => rfl
        | true => rw [reachN_listed hc _ i j hlj hre] at hif; cases hif
      · cases hre : reaches ops (use j) i with
        | false => rfl
        | true => rw [reachN_ready hc hw _ _ hre] at huj; cases huj
  · rintro L a w ⟨y, _, _, hk, hI, hp⟩ hs hall
    refine hend a y w hk hI fun i hi hu => hp i ?_ (nolist hs hu)
    have := hall i hi
    rw [getD_eq (by rw [hs]; exact hi)] at this ⊢
    exact this
end Go.Proofs.Ytllmkolchgmjoaa

/-
  A region that draws its order, by what holds whatever has come up: an invariant that every operation keeps. By the verifier.
-/
import Derived.Test.YtllmkolchgmjoaaRows
import Derived.WalkKit
import Derived.RegionTactic
namespace Go.Proofs.Ytllmkolchgmjoaa
open Go.RowKit

/-- Every edge leads to an operation ahead of its own. -/
def edgesBack (ops : Array Oper) : Bool := (List.range ops.size).all fun i => ((ops[i]?).map (·.after.all fun e => decide (e.on < i))).getD true

theorem getD_eq {L : Array Bool} {i : Nat} (h : i < L.size) (d : Bool) : L.getD i d = L[i] := by simp [Array.getD, h]
theorem ready_mem {ops : Array Oper} {L : Array Bool} {i : Nat} (h : i ∈ Region.ready .any ops L) :
    i < ops.size ∧ L.getD i true = false ∧ ∀ o, ops[i]? = some o → ∀ e, e ∈ o.after.toList → Region.binds .any e = true → L.getD e.on false = true := by
  unfold Region.ready at h
  rw [List.mem_filter, List.mem_range, Bool.and_eq_true, Bool.not_eq_true'] at h
  obtain ⟨h1, h2, h3⟩ := h
  refine ⟨h1, h2, fun o ho e he hb => ?_⟩
  rw [ho] at h3
  simp only [Option.map_some, Option.getD_some, Array.all_eq_true', Bool.or_eq_true, Bool.not_eq_true'] at h3
  rcases h3 e (Array.mem_def.2 he) with h4 | h4
  · rw [hb] at h4; cases h4
  · exact h4
theorem all_listed {ops : Array Oper} {L : Array Bool} (hb : edgesBack ops = true) (hs : L.size = ops.size) (hr : Region.ready .any ops L = []) : ∀ i, i < ops.size → L.getD i true = true := by
  intro i
  induction i using Nat.strongRecOn with
  | _ i ih =>
    intro hi
    cases hl : L.getD i true with
    | true => rfl
    | false =>
      have : i ∈ Region.ready .any ops L := by
        unfold Region.ready
        rw [List.mem_filter, List.mem_range, Bool.and_eq_true, Bool.not_eq_true']
        refine ⟨hi, hl, ?_⟩
        rw [Array.getElem?_eq_getElem hi]
        simp only [Option.map_some, Option.getD_some, Array.all_eq_true', Bool.or_eq_true, Bool.not_eq_true']
        intro e he
        right
        unfold edgesBack at hb
        rw [List.all_eq_true] at hb
        have h2 := hb i (List.mem_range.2 hi)
        rw [Array.getElem?_eq_getElem hi] at h2
        simp only [Option.map_some, Option.getD_some, Array.all_eq_true', decide_eq_true_eq] at h2
        have h3 := h2 e he
        have h4 := ih e.on h3 (by omega)
        rw [getD_eq (by omega)] at h4 ⊢
        exact h4
      rw [hr] at this
      cases this
theorem count_set {L : Array Bool} {i : Nat} (hi : i < L.size) (h : L.getD i true = false) : (L.setIfInBounds i true).toList.count false + 1 = L.toList.count false := by
  rw [getD_eq hi] at h
  rw [Array.toList_setIfInBounds, List.count_set (by simpa using hi)]
  have h2 : L.toList[i]'(by simpa using hi) = false := by simpa using h
  have h3 : 0 < L.toList.count false := List.count_pos_iff.2 (by rw [← h2]; exact List.getElem_mem _)
  rw [h2]
  have e1 : (if (false == false) = true then 1 else 0) = 1 := rfl
  have e2 : (if (true == false) = true then 1 else 0) = 0 := rfl
  rw [e1, e2]
  omega

theorem wpAny_inv {P : Program} {ops : Array Oper} {Q : Exit → Act → World → Prop} (J : Array Bool → Act → World → Prop) (hb : edgesBack ops = true)
    (hstep : ∀ L a w i o, J L a w → L.size = ops.size → ops[i]? = some o → L.getD i true = false → (∀ e, e ∈ o.after.toList → Region.binds .any e = true → L.getD e.on false = true) → wpOp P ops Q i (J (L.setIfInBounds i true)) a w)
    (hdone : ∀ L a w, J L a w → L.size = ops.size → (∀ i, i < ops.size → L.getD i true = true) → Q .normal a w) :
    ∀ fuel L a w, J L a w → L.size = ops.size → L.toList.count false ≤ fuel → wpAny P .any ops Q fuel L a w := by
  intro fuel
  induction fuel with
  | zero =>
    intro L a w hJ hs hc
    have hall : ∀ i, i < ops.size → L.getD i true = true := by
      intro i hi
      cases h : L.getD i true with
      | true => rfl
      | false => have := count_set (L := L) (by omega) h; omega
    refine ⟨?_, hdone L a w hJ hs hall⟩
    cases hr : Region.ready .any ops L with
    | nil => rfl
    | cons i rs =>
      have hm : i ∈ Region.ready .any ops L := by rw [hr]; exact List.mem_cons_self
      have := ready_mem hm
      rw [hall i this.1] at this
      cases this.2.1
  | succ fuel ih =>
    intro L a w hJ hs hc
    refine ⟨fun hr => hdone L a w hJ hs (all_listed hb hs hr), fun i hi => ?_⟩
    obtain ⟨h1, h2, h3⟩ := ready_mem hi
    have ho : ops[i]? = some ops[i] := Array.getElem?_eq_getElem h1
    refine wpOp_mono (fun a' w' hJ' => ih _ a' w' hJ' (by rw [Array.size_setIfInBounds]; exact hs) ?_) (hstep L a w i _ hJ hs ho h2 (h3 _ ho))
    have := count_set (L := L) (by omega) h2
    omega

/-- The rule: what holds at first, what every operation keeps, what follows when all have come up. -/
theorem region_inv {P : Program} {id : Nat} {ops : Array Oper} {Q : Exit → Act → World → Prop} {a : Act} {w : World} (hm : P.follows .mixedOrders = true) (J : Array Bool → Act → World → Prop) (hb : edgesBack ops = true)
    (h0 : J (Array.replicate ops.size false) a w.drew)
    (hstep : ∀ L a w i o, J L a w → L.size = ops.size → ops[i]? = some o → L.getD i true = false → (∀ e, e ∈ o.after.toList → Region.binds .any e = true → L.getD e.on false = true) → wpOp P ops Q i (J (L.setIfInBounds i true)) a w)
    (hdone : ∀ L a w, J L a w → L.size = ops.size → (∀ i, i < ops.size → L.getD i true = true) → Q .normal a w) : (Code.region id ops true).wp P Q a w :=
  wp_region_any hm (wpAny_inv J hb hstep hdone _ _ _ _ h0 (by simp) (by simp))

/-- Where an operation's value goes. -/
def dstAt (ops : Array Oper) (i : Nat) : Option Tmp := (ops[i]?).bind (·.dst)
/-- All operations but the last one have a place of their own each. -/
def dstOwn (ops : Array Oper) (size : Nat) : Bool := (List.range (ops.size - 1)).all fun i => match dstAt ops i with
  | some d => decide (d < size) && (List.range (ops.size - 1)).all fun j => decide (i = j) || !decide (dstAt ops j = some d)
  | none => false
/-- The last one waits for all others. -/
def lastWaits (ops : Array Oper) : Bool := decide (0 < ops.size) && (List.range (ops.size - 1)).all fun i => ((ops[ops.size - 1]?).map (·.after.any fun e => decide (e.on = i) && Region.binds .any e)).getD false
/-- What no operation but the last one writes is as it was. -/
structure Kept0 (ops : Array Oper) (a0 a : Act) : Prop where
  defers : a.defers = a0.defers
  size : a.tmps.size = a0.tmps.size
  same : ∀ k, (∀ i, i + 1 < ops.size → dstAt ops i ≠ some k) → a.tmps.getD k undef = a0.tmps.getD k undef

theorem dst_of {ops : Array Oper} {N i : Nat} (h : dstOwn ops N = true) (hi : i + 1 < ops.size) : ∃ d, dstAt ops i = some d ∧ d < N ∧ ∀ j, j + 1 < ops.size → i ≠ j → dstAt ops j ≠ some d := by
  unfold dstOwn at h
  rw [List.all_eq_true] at h
  have h1 := h i (List.mem_range.2 (by omega))
  cases hd : dstAt ops i with
  | none => rw [hd] at h1; cases h1
  | some d =>
    rw [hd] at h1
    simp only [Bool.and_eq_true, decide_eq_true_eq, List.all_eq_true, List.mem_range, Bool.or_eq_true, Bool.not_eq_true', decide_eq_false_iff_not] at h1
    refine ⟨d, rfl, h1.1, fun j hj hne => ?_⟩
    rcases h1.2 j (by omega) with h2 | h2
    · exact absurd h2 hne
    · exact h2
theorem put_getD (a : Act) (d k : Nat) (v : Value) (hd : d < a.tmps.size) : (a.put (some d) v).tmps.getD k undef = if k = d then v else a.tmps.getD k undef := by
  show (a.tmps.setIfInBounds d v).getD k undef = _
  rw [Array.getD_eq_getD_getElem?, Array.getD_eq_getD_getElem?, Array.getElem?_setIfInBounds]
  by_cases h : d = k
  · subst h; simp [hd]
  · rw [if_neg h, if_neg (fun e => h e.symm)]
theorem listed_set {L : Array Bool} {i k : Nat} (hi : i < L.size) : (L.setIfInBounds i true).getD k false = if k = i then true else L.getD k false := by
  rw [Array.getD_eq_getD_getElem?, Array.getD_eq_getD_getElem?, Array.getElem?_setIfInBounds]
  by_cases h : i = k
  · subst h; simp [hi]
  · rw [if_neg h, if_neg (fun e => h e.symm)]

/-- No operation but the last one writes it. -/
def notDst (ops : Array Oper) (k : Nat) : Bool := (List.range (ops.size - 1)).all fun i => !decide (dstAt ops i = some k)
theorem Kept0.slot {ops : Array Oper} {a0 a : Act} (h : Kept0 ops a0 a) (k : Nat) (hk : notDst ops k = true) : a.tmps.getD k undef = a0.tmps.getD k undef := by
  refine h.same k fun i hi e => ?_
  unfold notDst at hk
  rw [List.all_eq_true] at hk
  have := hk i (List.mem_range.2 (by omega))
  rw [e] at this
  simp at this
theorem Kept0.act {ops : Array Oper} {a0 a : Act} (h : Kept0 ops a0 a) :
    a = { tmps := ((List.range a0.tmps.size).map fun k => if notDst ops k = true then a0.tmps.getD k undef else a.tmps.getD k undef).toArray, defers := a0.defers } := by
  obtain ⟨t, d⟩ := a
  have hd : d = a0.defers := h.defers
  have hs : t.size = a0.tmps.size := h.size
  subst hd
  congr 1
  apply Array.ext
  · simp [hs]
  · intro i h1 h2
    simp only [List.getElem_toArray, List.getElem_map, List.getElem_range]
    split
    · rename_i hn
      rw [← h.slot i hn]
      simp [h1]
    · simp
theorem op_move {P : Program} {o : Oper} {a : Act} {w : World} {K : Act → World → Prop} {Q : Exit → Act → World → Prop} (t : Tmp) (ho : o.op = .move (.tmp t)) (h : K (a.put o.dst (a.tmps.getD t undef)) w) : o.wp P a w K Q := by
  unfold Oper.wp
  simp [execOp, ho, Act.eval, Oper.upon]
  simpa using h
/-- The rule for a literal with draws in it: each operation but the last one yields a value of which something is known that no other one undoes. -/
theorem region_draws {P : Program} {id : Nat} {ops : Array Oper} {Q : Exit → Act → World → Prop} {a0 : Act} {w0 : World} (hm : P.follows .mixedOrders = true) (hb : edgesBack ops = true) (hlast : lastWaits ops = true) (hdst : dstOwn ops a0.tmps.size = true)
    (I : World → Prop) (R : World → World → Prop) (Pr : Nat → World → Value → Prop) (hR : ∀ i w w' v, Pr i w v → R w w' → Pr i w' v) (h0 : I w0.drew)
    (hstep : ∀ i o, i + 1 < ops.size → ops[i]? = some o → ∀ a w, Kept0 ops a0 a → I w → (∀ e d, e ∈ o.after.toList → Region.binds .any e = true → dstAt ops e.on = some d → Pr e.on w (a.tmps.getD d undef)) → o.guard = none ∧ o.wp P a w (fun a' w' => ∃ v, a' = a.put o.dst v ∧ R w w' ∧ I w' ∧ Pr i w' v) Q)
    (hend : ∀ o, ops[ops.size - 1]? = some o → ∀ a w, Kept0 ops a0 a → I w → (∀ i d, i + 1 < ops.size → dstAt ops i = some d → Pr i w (a.tmps.getD d undef)) → o.guard = none ∧ o.wp P a w (fun a' w' => Q .normal a' w') Q) :
    (Code.region id ops true).wp P Q a0 w0 := by
  unfold lastWaits at hlast
  rw [Bool.and_eq_true, decide_eq_true_eq] at hlast
  obtain ⟨hpos, hlast⟩ := hlast
  have run : ∀ {i : Nat} {o : Oper} {a : Act} {w : World} {K : Act → World → Prop}, ops[i]? = some o → o.guard = none → o.wp P a w K Q → wpOp P ops Q i K a w := by
    intro i o a w K ho hg h
    refine wpOp_step ho fun K' hK => ?_
    rw [if_pos (by simp [Region.wanted, hg])]
    exact Oper.wp_mono hK h
  refine region_inv hm (fun L a w => ((∀ k, k < ops.size → L.getD k true = true) ∧ Q .normal a w) ∨
    (L.getD (ops.size - 1) false = false ∧ Kept0 ops a0 a ∧ I w ∧ ∀ i d, i + 1 < ops.size → L.getD i false = true → dstAt ops i = some d → Pr i w (a.tmps.getD d undef))) hb (.inr ⟨?_, ⟨rfl, rfl, fun _ _ => rfl⟩, h0, ?_⟩) ?_ ?_
  · simp [Array.getD]
  · intro i d hi hl
    simp [Array.getD] at hl
  · rintro L a w i o (⟨hall, _⟩ | ⟨hl, hk, hI, hp⟩) hs ho hi hd
    · have hlt : i < ops.size := (Array.getElem?_eq_some_iff.1 ho).1
      rw [hall i hlt] at hi
      cases hi
    · have hlt : i < ops.size := (Array.getElem?_eq_some_iff.1 ho).1
      by_cases hn : i + 1 < ops.size
      · obtain ⟨hg, hwp⟩ := hstep i o hn ho a w hk hI (fun e d he hbi hde => by
          have hon : e.on + 1 < ops.size := by
            unfold edgesBack at hb
            rw [List.all_eq_true] at hb
            have h2 := hb i (List.mem_range.2 hlt)
            rw [ho] at h2
            simp only [Option.map_some, Option.getD_some, Array.all_eq_true', decide_eq_true_eq] at h2
            have := h2 e (Array.mem_def.2 he)
            omega
          exact hp e.on d hon (hd e he hbi) hde)
        refine run ho hg (Oper.wp_mono ?_ hwp)
        rintro a' w' ⟨v, rfl, hr, hI', hv⟩
        obtain ⟨d, hd1, hd2, hd3⟩ := dst_of hdst hn
        have hod : o.dst = some d := by unfold dstAt at hd1; rw [ho] at hd1; exact hd1
        rw [hod]
        refine .inr ⟨?_, ⟨hk.defers, ?_, ?_⟩, hI', ?_⟩
        · rw [listed_set (by omega), if_neg (by omega)]; exact hl
        · show (a.tmps.setIfInBounds d v).size = _
          rw [Array.size_setIfInBounds]; exact hk.size
        · intro k hk2
          rw [put_getD _ _ _ _ (by rw [hk.size]; exact hd2), if_neg (fun e => hk2 i hn (by rw [e]; exact hd1))]
          exact hk.same k hk2
        · intro j dj hj hlj hdj
          rw [put_getD _ _ _ _ (by rw [hk.size]; exact hd2)]
          rw [listed_set (by omega)] at hlj
          by_cases hij : j = i
          · subst hij
            rw [hd1] at hdj
            cases hdj
            rw [if_pos rfl]
            exact hv
          · rw [if_neg hij] at hlj
            rw [if_neg (fun e => hd3 j hj (fun e2 => hij e2.symm) (by rw [hdj, e]))]
            exact hR j w w' _ (hp j dj hj hlj hdj) hr
      · have hi' : i = ops.size - 1 := by omega
        subst hi'
        have hothers : ∀ k, k + 1 < ops.size → L.getD k false = true := by
          intro k hk2
          rw [List.all_eq_true] at hlast
          have h2 := hlast k (List.mem_range.2 (by omega))
          rw [ho] at h2
          simp only [Option.map_some, Option.getD_some, Array.any_eq_true', Bool.and_eq_true, decide_eq_true_eq] at h2
          obtain ⟨e, he, hek, hbi⟩ := h2
          rw [← hek]
          exact hd e (Array.mem_def.1 he) hbi
        obtain ⟨hg, hwp⟩ := hend o ho a w hk hI (fun j d hj hdj => hp j d hj (hothers j hj) hdj)
        refine run ho hg (Oper.wp_mono ?_ hwp)
        intro a' w' hq
        refine .inl ⟨fun k hk2 => ?_, hq⟩
        rw [getD_eq (by rw [Array.size_setIfInBounds]; omega), ← getD_eq (by rw [Array.size_setIfInBounds]; omega) false, listed_set (by omega)]
        by_cases e : k = ops.size - 1
        · rw [if_pos e]
        · rw [if_neg e]; exact hothers k (by omega)
  · rintro L a w (⟨_, hq⟩ | ⟨hl, _⟩) hs hall
    · exact hq
    · have := hall (ops.size - 1) (by omega)
      rw [getD_eq (by omega)] at hl this
      rw [this] at hl
      cases hl
end Go.Proofs.Ytllmkolchgmjoaa

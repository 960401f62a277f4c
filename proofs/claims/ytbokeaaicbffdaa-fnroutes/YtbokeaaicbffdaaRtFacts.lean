/-
  Plain facts of routes that are put and taken. By the verifier.
-/
import Derived.Test.YtbokeaaicbffdaaRtPutI
import Derived.Test.YtbokeaaicbffdaaRtHopOf
import Derived.Test.YtbokeaaicbffdaaRtDrawL
namespace Go.Proofs.Ytbokeaaicbffdaa
open Go.RowKit

theorem ok_all {l : List Rt} (h : rtsOk l = true) : l.length ≤ 64 ∧ (∀ r ∈ l, r.ok = true) ∧ l.Pairwise fun a b => a.lt b = true := by
  have t := trieOk_of h
  refine ⟨?_, ?_, t.sorted⟩
  · unfold rtsOk at h
    rw [Bool.and_eq_true, decide_eq_true_iff] at h
    exact h.1
  · intro r hr
    obtain ⟨k, hk, rfl⟩ := List.getElem_of_mem hr
    unfold rtsOk goodTo at h
    rw [Bool.and_eq_true, List.all_eq_true] at h
    have := h.2 k (List.mem_range.2 hk)
    unfold good at this
    rw [Bool.and_eq_true, rtAt_lt hk] at this
    exact this.1
theorem ok_of {l : List Rt} (h64 : l.length ≤ 64) (hok : ∀ r ∈ l, r.ok = true) (hs : l.Pairwise fun a b => a.lt b = true) : rtsOk l = true := by
  unfold rtsOk goodTo
  rw [Bool.and_eq_true, decide_eq_true_iff, List.all_eq_true]
  refine ⟨h64, fun k hk => ?_⟩
  rw [List.mem_range] at hk
  unfold good
  rw [rtAt_lt hk, hok _ (List.getElem_mem hk), Bool.true_and, Bool.or_eq_true, decide_eq_true_iff]
  by_cases h0 : k = 0
  · exact .inl h0
  · refine .inr ?_
    rw [rtAt_lt (by omega)]
    exact List.pairwise_iff_getElem.1 hs (k - 1) k (by omega) hk (by omega)
theorem lt_irrefl' {a b : Rt} (h : a.lt b = true) : ¬ (a.net = b.net ∧ a.bits = b.bits) := by
  have := lt_iff.1 h
  omega
theorem lt_trans' {a b c : Rt} (h : a.lt b = true) (g : b.lt c = true) : a.lt c = true := by
  have h1 := lt_iff.1 h
  have h2 := lt_iff.1 g
  rw [lt_iff]
  omega

/-- What Take leaves is right, has one less, and is not taken again. -/
theorem take_good {l : List Rt} {net bits : Int} (h : takeB l net bits = true) : rtsOk (takeL l net bits) = true ∧ (takeL l net bits).length + 1 = l.length ∧ takeB (takeL l net bits) net bits = false := by
  unfold takeB at h
  rw [Bool.and_eq_true, decide_eq_true_iff] at h
  obtain ⟨hok, hx⟩ := h
  obtain ⟨h64, ha, hs⟩ := ok_all hok
  have hv : takeL l net bits = l.take (atN l net bits) ++ l.drop (atN l net bits + 1) := by unfold takeL; rw [if_pos hok, if_pos hx]
  have hsub : (l.take (atN l net bits) ++ l.drop (atN l net bits + 1)).Sublist l := by
    have := List.Sublist.append (List.Sublist.refl (l.take (atN l net bits))) (List.sublist_cons_self (rtAt l (atN l net bits)) (l.drop (atN l net bits + 1)))
    rwa [← split_at l _ hx] at this
  rw [hv]
  have hl : (l.take (atN l net bits) ++ l.drop (atN l net bits + 1)).length + 1 = l.length := by
    rw [List.length_append, List.length_take, List.length_drop]; omega
  have hok2 : rtsOk (l.take (atN l net bits) ++ l.drop (atN l net bits + 1)) = true := ok_of (by omega) (fun r hr => ha r (hsub.subset hr)) (hs.sublist hsub)
  refine ⟨hok2, hl, ?_⟩
  unfold takeB
  rw [hok2, Bool.true_and, decide_eq_false_iff_not]
  intro hlt
  have hh := atN_hit hlt
  have hm : rtAt (l.take (atN l net bits) ++ l.drop (atN l net bits + 1)) (atN (l.take (atN l net bits) ++ l.drop (atN l net bits + 1)) net bits) ∈ l.take (atN l net bits) ++ l.drop (atN l net bits + 1) := by rw [rtAt_lt hlt]; exact List.getElem_mem _
  generalize rtAt (l.take (atN l net bits) ++ l.drop (atN l net bits + 1)) (atN (l.take (atN l net bits) ++ l.drop (atN l net bits + 1)) net bits) = q at hh hm
  have h0 := atN_hit hx
  have hs2 := hs
  rw [split_at l _ hx, List.pairwise_append] at hs2
  obtain ⟨_, hd, hc⟩ := hs2
  rw [List.pairwise_cons] at hd
  rcases List.mem_append.1 hm with h1 | h1
  · exact lt_irrefl' (hc q h1 _ (List.mem_cons_self)) ⟨hh.1.trans h0.1.symm, hh.2.trans h0.2.symm⟩
  · exact lt_irrefl' (hd.1 q h1) ⟨h0.1.trans hh.1.symm, h0.2.trans hh.2.symm⟩

theorem pair_set {l : List Rt} {k : Nat} {r : Rt} (hk : k < l.length) (hn : (rtAt l k).net = r.net) (hb : (rtAt l k).bits = r.bits) (hs : l.Pairwise fun a b => a.lt b = true) : (l.set k r).Pairwise fun a b => a.lt b = true := by
  have key : ∀ i (hi : i < l.length), ((l.set k r)[i]'(by rw [List.length_set]; exact hi)).net = l[i].net ∧ ((l.set k r)[i]'(by rw [List.length_set]; exact hi)).bits = l[i].bits := by
    intro i hi
    rw [List.getElem_set]
    by_cases e : k = i
    · subst e
      rw [rtAt_lt hk] at hn hb
      simp [hn, hb]
    · simp [e]
  rw [List.pairwise_iff_getElem] at hs ⊢
  intro i j hi hj hij
  rw [List.length_set] at hi hj
  have := lt_iff.1 (hs i j hi hj hij)
  rw [lt_iff, (key i hi).1, (key i hi).2, (key j hj).1, (key j hj).2]
  exact this

/-- What Put leaves is right, has at most one more, holds the route; addresses that it does not fit keep their hop. -/
theorem put_good {l : List Rt} {r : Rt} (h : putsB l r = true) : rtsOk (putsL l r) = true ∧ (putsL l r).length ≤ l.length + 1 ∧ l.length ≤ (putsL l r).length ∧ r ∈ putsL l r ∧ ∀ x, r.fits x = false → hopV (putsL l r) x = hopV l x := by
  have hB := h
  unfold putsB at h
  rw [Bool.and_eq_true, Bool.and_eq_true] at h
  obtain ⟨hok, hr, hfull⟩ := h
  obtain ⟨h64, ha, hs⟩ := ok_all hok
  have hv : putsL l r = putL l r := by unfold putsL; rw [if_pos hok, if_pos hB]
  rw [hv]
  have hhop : ∀ x, rtsOk (putL l r) = true → (∀ q, 0 ≤ x ∧ x ≤ 4294967295 → fitB r.net r.bits x = false → ((putL l r).filter fun r => fitB r.net r.bits x) = (l.filter fun r => fitB r.net r.bits x) ∨ q) → r.fits x = false → hopV (putL l r) x = hopV l x := by
    intro x hok2 hf hx
    unfold hopV
    rw [hok, hok2]
    by_cases hin : inB 0 4294967295 x = true
    · have hin2 := inB_true.1 hin
      have hx2 : fitB r.net r.bits x = false := by
        unfold Rt.fits at hx
        rw [hr, hin] at hx
        simpa using hx
      simp only [hin, and_self, if_true]
      unfold hopL
      rw [fold_filter, fold_filter x l]
      rcases hf False hin2 hx2 with e | e
      · rw [e]
      · cases e
    · simp [hin]
  by_cases hx : atN l r.net r.bits < l.length
  · have h0 := atN_hit hx
    have hp : putL l r = l.set (atN l r.net r.bits) r := by unfold putL; rw [if_pos hx]
    have hok2 : rtsOk (putL l r) = true := by
      rw [hp]
      refine ok_of (by rw [List.length_set]; exact h64) (fun q hq => ?_) (pair_set hx h0.1 h0.2 hs)
      rcases List.mem_or_eq_of_mem_set hq with h1 | rfl
      · exact ha q h1
      · exact hr
    refine ⟨hok2, by rw [hp, List.length_set]; omega, by rw [hp, List.length_set]; omega, by rw [hp]; exact List.mem_set hx r, fun x => hhop x hok2 ?_⟩
    intro q _ hf
    left
    have e1 : l.set (atN l r.net r.bits) r = l.take (atN l r.net r.bits) ++ r :: l.drop (atN l r.net r.bits + 1) := List.set_eq_take_append_cons_drop.trans (by rw [if_pos hx])
    have e2 := split_at l _ hx
    rw [hp, e1]
    conv => rhs; rw [e2]
    have e3 : fitB (rtAt l (atN l r.net r.bits)).net (rtAt l (atN l r.net r.bits)).bits x = false := by rw [h0.1, h0.2]; exact hf
    simp [List.filter_append, hf, e3]
  · have hp : putL l r = l.take (insN l r) ++ [r] ++ l.drop (insN l r) := by unfold putL; rw [if_neg hx]
    have hl : ¬ l.length = 64 := by
      intro e
      rw [e] at hfull
      simp at hfull
      omega
    have hmiss : ∀ q ∈ l, ¬ (q.net = r.net ∧ q.bits = r.bits) := by
      intro q hq
      obtain ⟨k, hk, rfl⟩ := List.getElem_of_mem hq
      have := atN_miss (l := l) (net := r.net) (bits := r.bits) (k := k) (by omega)
      rwa [rtAt_lt hk] at this
    have hbef : ∀ q ∈ l.take (insN l r), q.lt r = true := by
      intro q hq
      obtain ⟨k, hk, rfl⟩ := List.getElem_of_mem hq
      rw [List.length_take] at hk
      have := insN_lt (l := l) (r := r) (k := k) (by omega)
      rw [rtAt_lt (by omega)] at this
      rw [List.getElem_take]
      exact this
    have haft : ∀ q ∈ l.drop (insN l r), r.lt q = true := by
      intro q hq
      obtain ⟨k, hk, rfl⟩ := List.getElem_of_mem hq
      rw [List.length_drop] at hk
      rw [List.getElem_drop]
      have hi : insN l r < l.length := by omega
      have h1 := insN_hit hi
      have h2 := hmiss _ (List.getElem_mem hi)
      rw [rtAt_lt hi] at h1
      have h3 := lt_false h1
      have h4 : r.lt l[insN l r] = true := by rw [lt_iff]; omega
      by_cases hk0 : k = 0
      · subst hk0; exact h4
      · exact lt_trans' h4 (List.pairwise_iff_getElem.1 hs _ _ hi (by omega) (by omega))
    have hls := insN_le l r
    have hlen : (putL l r).length = l.length + 1 := by rw [hp]; simp; omega
    have hok2 : rtsOk (putL l r) = true := by
      refine ok_of (by rw [hlen]; omega) (fun q hq => ?_) ?_
      · rw [hp] at hq
        simp only [List.mem_append, List.mem_singleton] at hq
        rcases hq with (h1 | rfl) | h1
        · exact ha q (List.mem_of_mem_take h1)
        · exact hr
        · exact ha q (List.mem_of_mem_drop h1)
      · rw [hp, List.append_assoc, List.pairwise_append, List.singleton_append, List.pairwise_cons]
        refine ⟨hs.sublist (List.take_sublist _ _), ⟨haft, hs.sublist (List.drop_sublist _ _)⟩, fun x hx y hy => ?_⟩
        rcases List.mem_cons.1 hy with rfl | h1
        · exact hbef x hx
        · exact lt_trans' (hbef x hx) (haft y h1)
    refine ⟨hok2, by omega, by omega, by rw [hp]; simp, fun x => hhop x hok2 ?_⟩
    intro q _ hf
    left
    rw [hp]
    have e := congrArg (List.filter fun r => fitB r.net r.bits x) (List.take_append_drop (insN l r) l)
    rw [List.filter_append] at e
    rw [← e]
    simp [List.filter_append, hf]
end Go.Proofs.Ytbokeaaicbffdaa

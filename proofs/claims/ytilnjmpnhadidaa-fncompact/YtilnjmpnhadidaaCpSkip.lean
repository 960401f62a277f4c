/-
  The model's way to join two, as plain data: it comes to the same. By the verifier.
-/
import Derived.Test.YtilnjmpnhadidaaCpPairM
namespace Go.Proofs.Ytilnjmpnhadidaa
open Go.RowKit

/-- The first n without two. -/
def skipK (l : List Rt) (i k n : Nat) : List Rt := ((List.range n).filter fun j => decide (j ≠ i) && decide (j ≠ k)).map (rtAt l)
theorem skipK_succ (l : List Rt) (i k n : Nat) : skipK l i k (n + 1) = if n = i ∨ n = k then skipK l i k n else skipK l i k n ++ [rtAt l n] := by
  unfold skipK
  rw [List.range_succ, List.filter_append, List.map_append]
  by_cases h1 : n = i
  · simp [h1]
  · by_cases h2 : n = k
    · simp [h2]
    · simp [h1, h2]
theorem skipK_le (l : List Rt) (i k n : Nat) : (skipK l i k n).length ≤ n := by
  unfold skipK
  rw [List.length_map]
  have := List.length_filter_le (fun j => decide (j ≠ i) && decide (j ≠ k)) (List.range n)
  rw [List.length_range] at this
  exact this
theorem range_map (l : List Rt) : (List.range l.length).map (rtAt l) = l := by
  apply List.ext_getElem
  · simp
  · intro i h1 h2
    rw [List.getElem_map, List.getElem_range, rtAt_lt h2]
theorem skip_sorted {l : List Rt} (h : l.Pairwise fun a b => a.lt b = true) (i k : Nat) : (skipK l i k l.length).Pairwise fun a b => a.lt b = true := by
  have hs : (skipK l i k l.length).Sublist l := by
    unfold skipK
    conv => rhs; rw [← range_map l]
    exact (List.filter_sublist).map _
  exact h.sublist hs
theorem skip_mem {l : List Rt} (h : l.Pairwise fun a b => a.lt b = true) {i k : Nat} (hi : i < l.length) (hk : k < l.length) (x : Rt) : x ∈ skipK l i k l.length ↔ x ∈ l ∧ ¬ (x.net = l[i].net ∧ x.bits = l[i].bits) ∧ ¬ (x.net = l[k].net ∧ x.bits = l[k].bits) := by
  have apart : ∀ (p q : Nat) (hp : p < l.length) (hq : q < l.length), (l[p].net = l[q].net ∧ l[p].bits = l[q].bits) → p = q := by
    intro p q hp hq e
    rcases Nat.lt_trichotomy p q with h1 | h1 | h1
    · exact absurd e (lt_irrefl' (List.pairwise_iff_getElem.1 h p q hp hq h1))
    · exact h1
    · exact absurd ⟨e.1.symm, e.2.symm⟩ (lt_irrefl' (List.pairwise_iff_getElem.1 h q p hq hp h1))
  unfold skipK
  simp only [List.mem_map, List.mem_filter, List.mem_range, Bool.and_eq_true, decide_eq_true_eq]
  constructor
  · rintro ⟨j, ⟨hj, h1, h2⟩, rfl⟩
    rw [rtAt_lt hj]
    exact ⟨List.getElem_mem hj, fun e => h1 (apart j i hj hi e), fun e => h2 (apart j k hj hk e)⟩
  · rintro ⟨hx, h1, h2⟩
    obtain ⟨j, hj, rfl⟩ := List.mem_iff_getElem.1 hx
    refine ⟨j, ⟨hj, ?_, ?_⟩, rtAt_lt hj⟩
    · rintro rfl; exact h1 ⟨rfl, rfl⟩
    · rintro rfl; exact h2 ⟨rfl, rfl⟩
theorem set_sorted {l : List Rt} {k : Nat} {r : Rt} (hk : k < l.length) (hn : l[k].net = r.net) (hb : l[k].bits = r.bits) (hs : l.Pairwise fun a b => a.lt b = true) : (l.set k r).Pairwise fun a b => a.lt b = true := by
  rw [List.pairwise_iff_getElem] at hs ⊢
  intro i j hi hj hij
  rw [List.length_set] at hi hj
  have h1 := lt_iff.1 (hs i j hi hj hij)
  rw [List.getElem_set, List.getElem_set]
  by_cases e1 : k = i
  · subst e1
    rw [if_pos rfl, if_neg (by omega), lt_iff]
    omega
  · rw [if_neg e1]
    by_cases e2 : k = j
    · subst e2
      rw [if_pos rfl, lt_iff]
      omega
    · rw [if_neg e2]; exact lt_iff.2 h1
/-- Put in is put in the place of one that is there. -/
theorem put_mem {m : List Rt} (hs : m.Pairwise fun a b => a.lt b = true) (r : Rt) : ((putL m r).Pairwise fun a b => a.lt b = true) ∧ ∀ x, x ∈ putL m r ↔ x = r ∨ (x ∈ m ∧ ¬ (x.net = r.net ∧ x.bits = r.bits)) := by
  by_cases hat : atN m r.net r.bits < m.length
  · have hp : putL m r = m.set (atN m r.net r.bits) r := by unfold putL; rw [if_pos hat]
    have h0 := atN_hit hat
    rw [rtAt_lt hat] at h0
    rw [hp]
    refine ⟨set_sorted hat h0.1 h0.2 hs, fun x => ?_⟩
    generalize atN m r.net r.bits = i at hat h0
    constructor
    · intro hx
      obtain ⟨j, hj, rfl⟩ := List.mem_iff_getElem.1 hx
      rw [List.length_set] at hj
      rw [List.getElem_set]
      by_cases e : i = j
      · rw [if_pos e]; exact .inl rfl
      · rw [if_neg e]
        refine .inr ⟨List.getElem_mem hj, fun hh => ?_⟩
        rcases Nat.lt_or_gt_of_ne e with h1 | h1
        · exact lt_irrefl' (List.pairwise_iff_getElem.1 hs i j hat hj h1) ⟨by omega, by omega⟩
        · exact lt_irrefl' (List.pairwise_iff_getElem.1 hs j i hj hat h1) ⟨by omega, by omega⟩
    · rintro (rfl | ⟨hx, hne⟩)
      · exact List.mem_set hat _
      · obtain ⟨j, hj, rfl⟩ := List.mem_iff_getElem.1 hx
        have e : i ≠ j := by rintro rfl; exact hne h0
        have : (m.set i r)[j]'(by rw [List.length_set]; exact hj) = m[j] := by rw [List.getElem_set, if_neg e]
        rw [← this]
        exact List.getElem_mem _
  · have hp : putL m r = insL m r := by unfold putL insL; rw [if_neg hat]
    have hmiss : ∀ q ∈ m, ¬ (q.net = r.net ∧ q.bits = r.bits) := by
      intro q hq
      obtain ⟨k, hk, rfl⟩ := List.getElem_of_mem hq
      have := atN_miss (l := m) (net := r.net) (bits := r.bits) (k := k) (by omega)
      rwa [rtAt_lt hk] at this
    rw [hp]
    refine ⟨insL_sorted hs hmiss, fun x => ?_⟩
    rw [insL_mem]
    constructor
    · rintro (h | h)
      · exact .inl h
      · exact .inr ⟨h, hmiss x h⟩
    · rintro (h | h)
      · exact .inl h
      · exact .inr h.1
theorem pair_skip {l : List Rt} (h : Fine l) {i k : Nat} (hi : i < l.length) (hk : k < l.length) (p : Paired l l[i]) (he : l[k].net = (twinR l[i]).net ∧ l[k].bits = l[i].bits) : putL (skipK l i k l.length) (joinR l[i]) = pairL l := by
  obtain ⟨s1, s2⟩ := put_mem (skip_sorted h.sorted i k) (joinR l[i])
  refine sorted_ext s1 (pair_fine h).sorted fun x => ?_
  rw [s2, p.members, skip_mem h.sorted hi hk, gone_iff]
  have e1 : (joinR l[i]).net = l[i].net := rfl
  have e2 : (joinR l[i]).bits = l[i].bits - 1 := rfl
  rw [e1, e2, he.1, he.2]
  constructor
  · rintro (h1 | ⟨⟨h1, h2, h3⟩, h4⟩)
    · exact .inl h1
    · refine .inr ⟨h1, ?_⟩
      rintro (h5 | h5 | h5)
      · exact h2 h5
      · exact h3 h5
      · exact h4 h5
  · rintro (h1 | ⟨h1, h2⟩)
    · exact .inl h1
    · exact .inr ⟨⟨h1, fun h => h2 (.inl h), fun h => h2 (.inr (.inl h))⟩, fun h => h2 (.inr (.inr h))⟩
/-- At the first that can be joined. -/
theorem pair_at {l : List Rt} (h : Fine l) (hlt : pairN l < l.length) : ∃ f, rtAt l (pairN l) = f ∧ f ∈ l ∧ f.bits ≠ 0 ∧ f.net / 2 ^ (32 - f.bits).toNat % 2 = 0 ∧ atN l (f.net + 2 ^ (32 - f.bits).toNat) f.bits < l.length ∧ (rtAt l (atN l (f.net + 2 ^ (32 - f.bits).toNat) f.bits)).hop = f.hop ∧ putL (skipK l (pairN l) (atN l (f.net + 2 ^ (32 - f.bits).toNat) f.bits) l.length) (joinR f) = pairL l := by
  rcases pair_or h with ⟨_, p⟩ | ⟨hn, _⟩
  · refine ⟨rtAt l (pairN l), rfl, p.mem, by have := p.pos; omega, p.even, ?_⟩
    have hat : atN l ((rtAt l (pairN l)).net + 2 ^ (32 - (rtAt l (pairN l)).bits).toNat) (rtAt l (pairN l)).bits < l.length := by
      unfold atN
      rw [List.findIdx_lt_length]
      refine ⟨_, p.tmem, ?_⟩
      rw [decide_eq_true_iff]
      exact ⟨p.tnet, rfl⟩
    have hh := atN_hit hat
    have he : rtAt l (atN l ((rtAt l (pairN l)).net + 2 ^ (32 - (rtAt l (pairN l)).bits).toNat) (rtAt l (pairN l)).bits) = twinR (rtAt l (pairN l)) := by
      refine h.one _ (by rw [rtAt_lt hat]; exact List.getElem_mem _) _ p.tmem ?_ ?_
      · rw [hh.1, p.tnet]
      · rw [hh.2]; rfl
    refine ⟨hat, by rw [he]; rfl, ?_⟩
    have hq := p
    rw [rtAt_lt hlt] at hq hat he hh ⊢
    rw [rtAt_lt hat] at he
    exact pair_skip h hlt hat hq ⟨by rw [he], by rw [he]; rfl⟩
  · exact absurd hlt hn
/-- Ahead of it none can. -/
theorem pair_ahead {l : List Rt} (h : Fine l) {k : Nat} (hk : k < pairN l) {r : Rt} (hr : rtAt l k = r) : r.bits = 0 ∨ r.net / 2 ^ (32 - r.bits).toNat % 2 ≠ 0 ∨ ¬ atN l (r.net + 2 ^ (32 - r.bits).toNat) r.bits < l.length ∨ (atN l (r.net + 2 ^ (32 - r.bits).toNat) r.bits < l.length ∧ (rtAt l (atN l (r.net + 2 ^ (32 - r.bits).toNat) r.bits)).hop ≠ r.hop) := by
  have hkl : k < l.length := Nat.lt_of_lt_of_le hk List.findIdx_le_length
  have hn := List.not_of_lt_findIdx (p := twinB (gOf l)) (xs := l) (i := k) hk
  rw [rtAt_lt hkl] at hr
  rw [hr] at hn
  have hnt : ¬ twinR r ∈ l := by
    intro hh
    rw [(twinB_iff h.one).2 hh] at hn
    cases hn
  by_cases h1 : r.bits = 0
  · exact .inl h1
  by_cases h2 : r.net / 2 ^ (32 - r.bits).toNat % 2 = 0
  · right; right
    by_cases h3 : atN l (r.net + 2 ^ (32 - r.bits).toNat) r.bits < l.length
    · right
      refine ⟨h3, fun e => hnt ?_⟩
      have hh := atN_hit h3
      have : rtAt l (atN l (r.net + 2 ^ (32 - r.bits).toNat) r.bits) = twinR r := by
        generalize rtAt l (atN l (r.net + 2 ^ (32 - r.bits).toNat) r.bits) = q at e hh
        obtain ⟨n, b, h⟩ := q
        simp only [] at e hh
        unfold twinR twinV
        rw [if_pos h2, e, hh.1, hh.2]
      rw [← this, rtAt_lt h3]
      exact List.getElem_mem _
    · exact .inl h3
  · exact .inr (.inl h2)
end Go.Proofs.Ytilnjmpnhadidaa

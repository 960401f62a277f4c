/-
  Idle rules say nothing: as plain data. By the verifier.
-/
import Derived.Test.YtdifegaokdoleaaRuIdle
import Derived.Test.YtdifegaokdoleaaRuFore
import Derived.Test.YtdifegaokdoleaaM5RtFitL
namespace Go.Proofs.Ytdifegaokdoleaa
open Go.RowKit

theorem rus_step' {l : List Ru} (h : rusOk l = true) {k : Nat} (hk : k + 1 < l.length) : (ruAt l k).id < (ruAt l (k + 1)).id := by
  unfold rusOk at h
  rw [Bool.and_eq_true] at h
  have := goodRs_all h.2 (k + 1) hk
  unfold goodR at this
  simp only [Bool.and_eq_true, Bool.or_eq_true, decide_eq_true_eq, Nat.add_sub_cancel] at this
  rcases this.2 with e | e
  · omega
  · exact e
theorem rus_pair {l : List Ru} (h : rusOk l = true) : l.Pairwise fun a b => a.id < b.id := by
  have key : ∀ {i j : Nat}, i < j → j < l.length → (ruAt l i).id < (ruAt l j).id := by
    intro i j hij
    induction j with
    | zero => omega
    | succ j ih =>
      intro hj
      have h1 := rus_step' h hj
      by_cases e : i = j
      · subst e; exact h1
      · have := ih (by omega) (by omega)
        omega
  rw [List.pairwise_iff_getElem]
  intro i j hi hj hij
  have := key hij hj
  rwa [ruAt_lt hi, ruAt_lt hj] at this
/-- A list of right rules that rise is right. -/
theorem rus_of {l : List Ru} (h40 : l.length ≤ 40) (hok : ∀ r ∈ l, r.ok = true) (hp : l.Pairwise fun a b => a.id < b.id) : rusOk l = true := by
  unfold rusOk
  rw [Bool.and_eq_true]
  refine ⟨decide_eq_true h40, ?_⟩
  unfold goodRs
  rw [List.all_eq_true]
  intro i hi
  have hi' := List.mem_range.1 hi
  unfold goodR
  rw [Bool.and_eq_true]
  refine ⟨by rw [ruAt_lt hi']; exact hok _ (List.getElem_mem _), ?_⟩
  rw [Bool.or_eq_true]
  by_cases h0 : i = 0
  · exact .inl (decide_eq_true h0)
  · refine .inr (decide_eq_true ?_)
    rw [ruAt_lt hi', ruAt_lt (show i - 1 < l.length by omega)]
    exact (List.pairwise_iff_getElem.1 hp) (i - 1) i (by omega) hi' (by omega)
theorem rus_parts {l : List Ru} (h : rusOk l = true) : ∀ r ∈ l, r.ok = true := by
  intro r hr
  obtain ⟨i, hi, rfl⟩ := List.mem_iff_getElem.1 hr
  have := rus_ok h hi
  rwa [ruAt_lt hi] at this
/-- With fewer of them. -/
theorem rus_less {l : List Ru} (h : rusOk l = true) (p : Ru → Bool) : rusOk (l.filter p) = true :=
  rus_of (Nat.le_trans (List.length_filter_le _ _) (rus_len h)) (fun r hr => rus_parts h r (List.mem_filter.1 hr).1) ((rus_pair h).filter p)
/-- What goes ahead, goes on. -/
theorem Ru.ahead_trans {a b c : Ru} (h1 : a.ahead b = true) (h2 : b.ahead c = true) : a.ahead c = true := by
  unfold Ru.ahead at *
  rw [decide_eq_true_iff] at *
  omega
/-- A net within a net. -/
theorem fit_trans {n1 b1 n2 b2 x : Int} (h1 : inB 0 32 b1 = true) (h2 : inB 0 32 b2 = true) (hb : b1 ≤ b2) (f1 : fitB n1 b1 n2 = true) (f2 : fitB n2 b2 x = true) : fitB n1 b1 x = true := by
  unfold fitB at *
  rw [decide_eq_true_iff] at *
  obtain ⟨s1, hs1, rfl⟩ := bits_of h1
  obtain ⟨s2, hs2, rfl⟩ := bits_of h2
  rw [pow_of hs1] at f1 ⊢
  rw [pow_of hs2] at f2
  have hle : s2 ≤ s1 := by omega
  have he : (2 : Int) ^ s1 = 2 ^ s2 * 2 ^ (s1 - s2) := by rw [← Int.pow_add]; congr 1; omega
  have p2 : (0 : Int) < 2 ^ s2 := pow_pos' s2
  have e1 : x / 2 ^ s1 = n2 / 2 ^ s1 := by
    rw [he, ← Int.ediv_ediv_of_nonneg (Int.le_of_lt p2), ← Int.ediv_ediv_of_nonneg (Int.le_of_lt p2), ← f2, Int.mul_ediv_cancel _ (by omega)]
  rw [e1]
  exact f1
theorem Ru.wide_hits {a b : Ru} (ha : a.ok = true) (hb : b.ok = true) (hw : a.wide b = true) {f : Fr} (hf : b.hits f = true) : a.hits f = true := by
  unfold Ru.wide at hw
  unfold Ru.hits at *
  simp only [Bool.and_eq_true, decide_eq_true_eq, inB_true] at *
  obtain ⟨w1, w2, w3, w4, w5, w6, w7⟩ := hw
  obtain ⟨q1, q2, q3, q4⟩ := hf
  have a1 := netB_parts (Ru.ok_nets ha).1
  have a2 := netB_parts (Ru.ok_nets ha).2
  have b1 := netB_parts (Ru.ok_nets hb).1
  have b2 := netB_parts (Ru.ok_nets hb).2
  refine ⟨fit_trans a1.1 b1.1 w1 w2 q1, fit_trans a2.1 b2.1 w3 w4 q2, ?_, by omega⟩
  omega
/-- Nobody goes ahead of the foremost one. -/
theorem front_best : ∀ (n : Nat) (M : List Ru), M.length = n → M ≠ [] → frontK M M.length ∈ M ∧ ∀ r ∈ M, r.ahead (frontK M M.length) = false := by
  intro n
  induction n with
  | zero => intro M h hM; exact absurd (List.length_eq_zero_iff.1 h) hM
  | succ n ih =>
    intro M h hM
    obtain ⟨N, r, rfl⟩ : ∃ N r, M = N ++ [r] := ⟨M.dropLast, M.getLast hM, (List.dropLast_concat_getLast hM).symm⟩
    have hl : N.length = n := by simpa using h
    rw [front_snoc]
    by_cases hN : N = []
    · rw [if_pos hN]
      subst hN
      refine ⟨by simp, fun q hq => ?_⟩
      obtain rfl : q = r := by simpa using hq
      exact Ru.ahead_self q
    · rw [if_neg hN]
      obtain ⟨h1, h2⟩ := ih N hl hN
      by_cases ha : r.ahead (frontK N N.length) = true
      · rw [if_pos ha]
        refine ⟨by simp, fun q hq => ?_⟩
        rcases List.mem_append.1 hq with hq | hq
        · cases hx : q.ahead r with
          | false => rfl
          | true => have := Ru.ahead_trans hx ha; rw [h2 q hq] at this; cases this
        · obtain rfl : q = r := by simpa using hq
          exact Ru.ahead_self q
      · rw [if_neg ha]
        refine ⟨List.mem_append.2 (.inl h1), fun q hq => ?_⟩
        rcases List.mem_append.1 hq with hq | hq
        · exact h2 q hq
        · obtain rfl : q = r := by simpa using hq
          simpa using ha
theorem same_id {l : List Ru} (h : rusOk l = true) {a b : Ru} (ha : a ∈ l) (hb : b ∈ l) (e : a.id = b.id) : a = b := by
  have hp := rus_pair h
  obtain ⟨i, hi, rfl⟩ := List.mem_iff_getElem.1 ha
  obtain ⟨j, hj, rfl⟩ := List.mem_iff_getElem.1 hb
  have hq := List.pairwise_iff_getElem.1 hp
  rcases Nat.lt_trichotomy i j with hij | hij | hij
  · have := hq i j hi hj hij; omega
  · subst hij; rfl
  · have := hq j i hj hi hij; omega
theorem mem_idle (l : List Ru) : ∀ (k : Nat) (x : Int), x ∈ idleK l k ↔ ∃ i, i < k ∧ x = (ruAt l i).id ∧ (List.range l.length).any (idleB l i) = true := by
  intro k
  induction k with
  | zero => intro x; simp [idleK]
  | succ k ih =>
    intro x
    rw [idleK_succ, innerK_is]
    by_cases hb : (List.range l.length).any (idleB l k) = true
    · rw [if_pos hb, insI_mem, ih]
      constructor
      · rintro (rfl | ⟨i, hi, e⟩)
        · exact ⟨k, by omega, rfl, hb⟩
        · exact ⟨i, by omega, e⟩
      · rintro ⟨i, hi, e1, e2⟩
        by_cases hik : i = k
        · subst hik; exact .inl e1
        · exact .inr ⟨i, by omega, e1, e2⟩
    · rw [if_neg hb, ih]
      constructor
      · rintro ⟨i, hi, e⟩; exact ⟨i, by omega, e⟩
      · rintro ⟨i, hi, e1, e2⟩
        by_cases hik : i = k
        · subst hik; exact absurd e2 hb
        · exact ⟨i, by omega, e1, e2⟩
/-- Those that are not idle. -/
def lessL (l : List Ru) (xs : List Int) : List Ru := l.filter fun r => !decide (r.id ∈ xs)
theorem idle_class {l : List Ru} (h : rusOk l = true) (f : Fr) : classL (lessL l (idleK l l.length)) f = classL l f := by
  rw [← class_front, ← class_front]
  have hM : (lessL l (idleK l l.length)).filter (fun r => r.hits f) = (l.filter fun r => r.hits f).filter fun r => !decide (r.id ∈ idleK l l.length) := by
    unfold lessL
    rw [List.filter_filter, List.filter_filter]
    apply List.filter_congr
    intro r _
    rw [Bool.and_comm]
  rw [hM]
  generalize hMM : (l.filter fun r => r.hits f) = M
  by_cases h0 : M = []
  · rw [h0]; rfl
  · have hml : ∀ r ∈ M, r ∈ l ∧ r.hits f = true := fun r hr => by rw [← hMM] at hr; exact List.mem_filter.1 hr
    obtain ⟨hm, hbest⟩ := front_best _ M rfl h0
    generalize hmm : frontK M M.length = m at hm hbest
    have hp : (!decide (m.id ∈ idleK l l.length)) = true := by
      rw [Bool.not_eq_true', decide_eq_false_iff_not]
      intro hin
      obtain ⟨i, hi, e, hany⟩ := (mem_idle l l.length m.id).1 hin
      have hmi : m = ruAt l i := same_id h (hml m hm).1 (by rw [ruAt_lt hi]; exact List.getElem_mem _) e
      rw [List.any_eq_true] at hany
      obtain ⟨k, hk, hb⟩ := hany
      have hk' := List.mem_range.1 hk
      unfold idleB at hb
      simp only [Bool.and_eq_true] at hb
      have hin2 : ruAt l k ∈ l := by rw [ruAt_lt hk']; exact List.getElem_mem _
      have hhit : (ruAt l k).hits f = true := Ru.wide_hits (rus_ok h hk') (rus_ok h hi) hb.2.2 (by rw [← hmi]; exact (hml m hm).2)
      have := hbest (ruAt l k) (by rw [← hMM]; exact List.mem_filter.2 ⟨hin2, hhit⟩)
      rw [hmi, hb.2.1] at this
      cases this
    have hm2 : m ∈ M.filter fun r => !decide (r.id ∈ idleK l l.length) := List.mem_filter.2 ⟨hm, hp⟩
    have h02 : (M.filter fun r => !decide (r.id ∈ idleK l l.length)) ≠ [] := fun e => by rw [e] at hm2; cases hm2
    obtain ⟨hm3, hbest3⟩ := front_best _ _ rfl h02
    have hz : frontK (M.filter fun r => !decide (r.id ∈ idleK l l.length)) (M.filter fun r => !decide (r.id ∈ idleK l l.length)).length = m := by
      have q1 := hbest3 m hm2
      have q2 := hbest _ (List.mem_filter.1 hm3).1
      have q3 := (hml _ (List.mem_filter.1 hm3).1).1
      generalize frontK (M.filter fun r => !decide (r.id ∈ idleK l l.length)) (M.filter fun r => !decide (r.id ∈ idleK l l.length)).length = m' at q1 q2 q3
      refine same_id h q3 (hml m hm).1 ?_
      unfold Ru.ahead at q1 q2
      rw [decide_eq_false_iff_not] at q1 q2
      omega
    unfold frontV
    rw [if_neg (fun e => h02 (List.length_eq_zero_iff.1 e)), if_neg (fun e => h0 (List.length_eq_zero_iff.1 e)), hz, hmm]
theorem idle_classV {l : List Ru} (h : rusOk l = true) (f : Fr) : classV (lessL l (idleK l l.length)) f = classV l f := by
  unfold classV
  rw [idle_class h, show rusOk (lessL l (idleK l l.length)) = true from rus_less h _, h]
end Go.Proofs.Ytdifegaokdoleaa

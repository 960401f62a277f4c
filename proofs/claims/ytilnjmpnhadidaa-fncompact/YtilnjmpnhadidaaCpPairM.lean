/-
  Two that can be joined, as plain data: the first of them, and what is in their place. By the verifier.
-/
import Derived.Test.YtilnjmpnhadidaaCpAbove
import Derived.Test.YtilnjmpnhadidaaRtPutS
namespace Go.Proofs.Ytilnjmpnhadidaa
open Go.RowKit

/-- A place in a list put in. -/
def insL (m : List Rt) (r : Rt) : List Rt := m.take (insN m r) ++ [r] ++ m.drop (insN m r)
theorem insL_length (m : List Rt) (r : Rt) : (insL m r).length = m.length + 1 := by
  have := insN_le m r
  unfold insL
  simp
  omega
theorem insL_mem {m : List Rt} {r x : Rt} : x ∈ insL m r ↔ x = r ∨ x ∈ m := by
  unfold insL
  have e : x ∈ m ↔ x ∈ m.take (insN m r) ∨ x ∈ m.drop (insN m r) := by
    conv => lhs; rw [← List.take_append_drop (insN m r) m]
    rw [List.mem_append]
  rw [e]
  simp only [List.mem_append, List.mem_singleton]
  constructor
  · rintro ((h | h) | h)
    · exact .inr (.inl h)
    · exact .inl h
    · exact .inr (.inr h)
  · rintro (h | h | h)
    · exact .inl (.inr h)
    · exact .inl (.inl h)
    · exact .inr h
theorem insL_sorted {l : List Rt} {r : Rt} (hs : l.Pairwise fun a b => a.lt b = true) (hmiss : ∀ q ∈ l, ¬ (q.net = r.net ∧ q.bits = r.bits)) : (insL l r).Pairwise fun a b => a.lt b = true := by
  have hbef : ∀ q ∈ l.take (insN l r), q.lt r = true := by
    intro q hq
    obtain ⟨k, hk, rfl⟩ := List.getElem_of_mem hq
    rw [List.length_take] at hk
    have := insN_lt (l := l) (r := r) (k := k) (by omega)
    rw [rtAt_lt (by omega)] at this
    rw [List.getElem_take]
    exact this
  have haft : ∀ q ∈ l.drop (insN l r), r.lt q = true := by
    intro q hq
    obtain ⟨k, hk, rfl⟩ := List.getElem_of_mem hq
    rw [List.length_drop] at hk
    rw [List.getElem_drop]
    have hi : insN l r < l.length := by omega
    have h1 := insN_hit hi
    have h2 := hmiss _ (List.getElem_mem hi)
    rw [rtAt_lt hi] at h1
    have h3 := lt_false h1
    have h4 : r.lt l[insN l r] = true := by rw [lt_iff]; omega
    by_cases hk0 : k = 0
    · subst hk0; exact h4
    · exact lt_trans' h4 (List.pairwise_iff_getElem.1 hs _ _ hi (by omega) (by omega))
  unfold insL
  rw [List.append_assoc, List.pairwise_append, List.singleton_append, List.pairwise_cons]
  refine ⟨hs.sublist (List.take_sublist _ _), ⟨haft, hs.sublist (List.drop_sublist _ _)⟩, fun x hx y hy => ?_⟩
  rcases List.mem_cons.1 hy with rfl | h1
  · exact hbef x hx
  · exact lt_trans' (hbef x hx) (haft y h1)

/-- One bit less. -/
def joinR (r : Rt) : Rt := ⟨r.net, r.bits - 1, r.hop⟩
/-- The other one. -/
def twinR (r : Rt) : Rt := ⟨twinV r.net (32 - r.bits).toNat, r.bits, r.hop⟩
/-- The places that go. -/
def goneL (r : Rt) : List (Int × Int) := [(r.net, r.bits), (twinV r.net (32 - r.bits).toNat, r.bits), (r.net, r.bits - 1)]
def restL (l : List Rt) (r : Rt) : List Rt := l.filter fun x => !decide ((x.net, x.bits) ∈ goneL r)
def pairN (l : List Rt) : Nat := l.findIdx (twinB (gOf l))
def pairL (l : List Rt) : List Rt := if pairN l < l.length then insL (restL l (rtAt l (pairN l))) (joinR (rtAt l (pairN l))) else l

theorem twinB_iff {l : List Rt} (h : OneAt l) {r : Rt} : twinB (gOf l) r = true ↔ twinR r ∈ l := by
  unfold twinB twinR
  rw [decide_eq_true_iff, gOf_some h]
/-- Of a right one of more than no bits. -/
theorem twin_bits {r : Rt} (hr : r.ok = true) (ht : (twinR r).ok = true) : 0 < r.bits := by
  obtain ⟨p1, p2, p3, _⟩ := ok_split hr
  obtain ⟨q1, q2, q3, _⟩ := ok_split ht
  apply Classical.byContradiction
  intro hn
  have e : r.bits = 0 := by omega
  have e32 : (2 : Int) ^ 32 = 4294967296 := by decide
  have p3' : r.net % 4294967296 = 0 := by
    have := p3
    rw [e] at this
    exact this
  have h0 : r.net = 0 := by omega
  have : (twinR r).net = 4294967296 := by
    unfold twinR twinV
    simp only []
    rw [e, h0]
    decide
  omega
theorem half_eq {r : Rt} (hr : r.ok = true) : ∃ m : Int, 0 ≤ m ∧ r.net = m * 2 ^ (32 - r.bits).toNat ∧ r.net / 2 ^ (32 - r.bits).toNat = m := by
  obtain ⟨p1, p2, p3, _⟩ := ok_split hr
  have p0 := pow_pos' (32 - r.bits).toNat
  refine ⟨r.net / 2 ^ (32 - r.bits).toNat, Int.ediv_nonneg p2.1 (by omega), ?_, rfl⟩
  have := Int.mul_ediv_add_emod r.net (2 ^ (32 - r.bits).toNat)
  rw [p3, Int.mul_comm] at this
  omega
theorem twin_twin {r : Rt} (hr : r.ok = true) : twinR (twinR r) = r := by
  obtain ⟨m, m0, e1, e2⟩ := half_eq hr
  have p0 := pow_pos' (32 - r.bits).toNat
  obtain ⟨net, bits, hop⟩ := r
  simp only [] at e1 e2 p0
  unfold twinR twinV
  simp only []
  rw [e2]
  generalize (2 : Int) ^ (32 - bits).toNat = P at e1 e2 p0 ⊢
  by_cases h2 : m % 2 = 0
  · rw [if_pos h2]
    have : (net + P) / P = m + 1 := by
      have h3 : net + P = (m + 1) * P := by rw [Int.add_mul, Int.one_mul, e1]
      rw [h3, Int.mul_ediv_cancel _ (by omega)]
    rw [this, if_neg (by omega)]
    congr 1
    omega
  · rw [if_neg h2]
    have : (net - P) / P = m - 1 := by
      have h3 : net - P = (m - 1) * P := by rw [Int.sub_mul, Int.one_mul, e1]
      rw [h3, Int.mul_ediv_cancel _ (by omega)]
    rw [this, if_pos (by omega)]
    congr 1
    omega
theorem find_unique {l : List Rt} {p q : Rt → Bool} (hpq : ∀ r ∈ l, p r = true → q r = true) (hf : (h : l.findIdx q < l.length) → p l[l.findIdx q] = true) : l.findIdx p = l.findIdx q := by
  by_cases h : l.findIdx q < l.length
  · have hle : l.findIdx p ≤ l.findIdx q := by
      apply Classical.byContradiction
      intro hn
      have := List.not_of_lt_findIdx (p := p) (xs := l) (i := l.findIdx q) (by omega)
      rw [hf h] at this
      cases this
    have hlt : l.findIdx p < l.length := by omega
    have h1 := List.findIdx_getElem (p := p) (xs := l) (w := hlt)
    have h2 := hpq _ (List.getElem_mem hlt) h1
    apply Classical.byContradiction
    intro hn
    have := List.not_of_lt_findIdx (p := q) (xs := l) (i := l.findIdx p) (by omega)
    rw [h2] at this
    cases this
  · have h1 : l.findIdx q = l.length := by have := List.findIdx_le_length (p := q) (xs := l); omega
    rw [h1]
    rw [List.findIdx_eq_length]
    intro r hr
    rw [List.findIdx_eq_length] at h1
    cases hp : p r
    · rfl
    · have := hpq r hr hp
      rw [h1 r hr] at this
      cases this
/-- The first that has a twin has the last bit 0. -/
theorem first_even {l : List Rt} (h : Fine l) (hlt : pairN l < l.length) : ∃ r, rtAt l (pairN l) = r ∧ r ∈ l ∧ twinR r ∈ l ∧ 0 < r.bits ∧ r.net / 2 ^ (32 - r.bits).toNat % 2 = 0 ∧ (twinR r).net = r.net + 2 ^ (32 - r.bits).toNat := by
  refine ⟨rtAt l (pairN l), rfl, ?_⟩
  rw [rtAt_lt hlt]
  have hmem := List.getElem_mem hlt
  have ht : twinB (gOf l) l[pairN l] = true := List.findIdx_getElem (p := twinB (gOf l)) (xs := l) (w := hlt)
  rw [twinB_iff h.one] at ht
  have hr := h.ok _ hmem
  have hb := twin_bits hr (h.ok _ ht)
  have he : l[pairN l].net / 2 ^ (32 - l[pairN l].bits).toNat % 2 = 0 := by
    apply Classical.byContradiction
    intro hn
    obtain ⟨j, hj, ej⟩ := List.mem_iff_getElem.1 ht
    have p0 := pow_pos' (32 - l[pairN l].bits).toNat
    have e1 : (twinR l[pairN l]).net = l[pairN l].net - 2 ^ (32 - l[pairN l].bits).toNat := by
      unfold twinR twinV
      simp only []
      rw [if_neg hn]
    have hjl : j < pairN l := by
      apply Classical.byContradiction
      intro hge
      by_cases e : j = pairN l
      · subst e
        rw [← ej] at e1
        omega
      · have := lt_iff.1 (List.pairwise_iff_getElem.1 h.sorted (pairN l) j hlt hj (by omega))
        rw [ej, e1] at this
        omega
    have := List.not_of_lt_findIdx (p := twinB (gOf l)) (xs := l) (i := j) hjl
    have h2 : twinB (gOf l) l[j] = true := by
      rw [twinB_iff h.one, ej, twin_twin hr]
      exact hmem
    rw [h2] at this
    cases this
  refine ⟨hmem, ht, hb, he, ?_⟩
  unfold twinR twinV
  simp only []
  rw [if_pos he]
theorem join_ok {r : Rt} (hr : r.ok = true) (hb : 0 < r.bits) (he : r.net / 2 ^ (32 - r.bits).toNat % 2 = 0) : (joinR r).ok = true := by
  obtain ⟨p1, p2, p3, p4⟩ := ok_split hr
  obtain ⟨m, m0, e1, e2⟩ := half_eq hr
  rw [e2] at he
  unfold joinR Rt.ok netB
  simp only [Bool.and_eq_true, decide_eq_true_eq, inB_true]
  refine ⟨⟨by omega, p2, ?_⟩, p4⟩
  rw [show (32 - (r.bits - 1)).toNat = (32 - r.bits).toNat + 1 by omega, Int.pow_succ]
  have : r.net = (m / 2) * (2 ^ (32 - r.bits).toNat * 2) := by
    have h2 : m = m / 2 * 2 := by omega
    rw [e1]
    conv => lhs; rw [h2]
    rw [Int.mul_assoc, Int.mul_comm 2]
  rw [this]
  exact Int.mul_emod_left _ _
theorem rest_mem {l : List Rt} {r x : Rt} : x ∈ restL l r ↔ x ∈ l ∧ (x.net, x.bits) ∉ goneL r := by
  unfold restL
  rw [List.mem_filter]
  simp
theorem gone_iff {r x : Rt} : (x.net, x.bits) ∈ goneL r ↔ (x.net = r.net ∧ x.bits = r.bits) ∨ (x.net = (twinR r).net ∧ x.bits = r.bits) ∨ (x.net = r.net ∧ x.bits = r.bits - 1) := by
  unfold goneL twinR
  simp
theorem rest_sorted {l : List Rt} (h : Fine l) (r : Rt) : (insL (restL l r) (joinR r)).Pairwise fun a b => a.lt b = true := by
  refine insL_sorted (h.sorted.filter _) fun q hq hh => ?_
  obtain ⟨_, h2⟩ := rest_mem.1 hq
  exact h2 (gone_iff.2 (.inr (.inr hh)))
theorem rest_length {l : List Rt} {r t : Rt} (hr : r ∈ l) (ht : t ∈ l) (hne : ¬ (t.net = r.net ∧ t.bits = r.bits)) (g2 : (t.net, t.bits) ∈ goneL r) : (restL l r).length + 2 ≤ l.length := by
  have h1 : (l.filter fun x => !decide (x.net = r.net ∧ x.bits = r.bits)).length < l.length := by
    rw [List.length_filter_lt_length_iff_exists]
    exact ⟨r, hr, by simp⟩
  have h2 : ((l.filter fun x => !decide (x.net = r.net ∧ x.bits = r.bits)).filter fun x => !decide ((x.net, x.bits) ∈ goneL r)).length < (l.filter fun x => !decide (x.net = r.net ∧ x.bits = r.bits)).length := by
    rw [List.length_filter_lt_length_iff_exists]
    exact ⟨t, List.mem_filter.2 ⟨ht, by rw [decide_eq_false hne]; rfl⟩, by rw [decide_eq_true g2]; simp⟩
  have h3 : restL l r = ((l.filter fun x => !decide (x.net = r.net ∧ x.bits = r.bits)).filter fun x => !decide ((x.net, x.bits) ∈ goneL r)) := by
    unfold restL
    rw [List.filter_filter]
    apply List.filter_congr
    intro x _
    by_cases e : x.net = r.net ∧ x.bits = r.bits
    · have : (x.net, x.bits) ∈ goneL r := gone_iff.2 (.inl e)
      simp [this]
    · simp [e]
  rw [h3]
  omega
/-- What Paired leaves, told by its members. -/
structure Paired (l : List Rt) (r : Rt) : Prop where
  mem : r ∈ l
  tmem : twinR r ∈ l
  pos : 0 < r.bits
  even : r.net / 2 ^ (32 - r.bits).toNat % 2 = 0
  tnet : (twinR r).net = r.net + 2 ^ (32 - r.bits).toNat
  is : pairL l = insL (restL l r) (joinR r)
theorem pair_or {l : List Rt} (h : Fine l) : (pairN l < l.length ∧ Paired l (rtAt l (pairN l))) ∨ (¬ pairN l < l.length ∧ pairL l = l) := by
  by_cases hlt : pairN l < l.length
  · left
    obtain ⟨r, e, h1, h2, h3, h4, h5⟩ := first_even h hlt
    subst e
    exact ⟨hlt, h1, h2, h3, h4, h5, by unfold pairL; rw [if_pos hlt]⟩
  · right
    exact ⟨hlt, by unfold pairL; rw [if_neg hlt]⟩
theorem Paired.members {l : List Rt} {r : Rt} (p : Paired l r) (x : Rt) : x ∈ pairL l ↔ x = joinR r ∨ (x ∈ l ∧ (x.net, x.bits) ∉ goneL r) := by
  rw [p.is, insL_mem, rest_mem]
theorem Paired.less {l : List Rt} {r : Rt} (p : Paired l r) : (pairL l).length + 1 ≤ l.length := by
  rw [p.is, insL_length]
  have p0 := pow_pos' (32 - r.bits).toNat
  have := rest_length p.mem p.tmem (by have := p.tnet; omega) (gone_iff.2 (.inr (.inl ⟨rfl, rfl⟩)))
  omega
theorem pair_fine {l : List Rt} (h : Fine l) : Fine (pairL l) := by
  rcases pair_or h with ⟨_, p⟩ | ⟨_, e⟩
  · refine ⟨fun x hx => ?_, by rw [p.is]; exact rest_sorted h _⟩
    rcases (p.members x).1 hx with rfl | ⟨hx, _⟩
    · exact join_ok (h.ok _ p.mem) p.pos p.even
    · exact h.ok x hx
  · rw [e]; exact h
theorem pair_length {l : List Rt} (h : Fine l) : (pairL l).length ≤ l.length := by
  rcases pair_or h with ⟨_, p⟩ | ⟨_, e⟩
  · have := p.less; omega
  · rw [e]; exact Nat.le_refl _
/-- The joined one fits just where one of the two does. -/
theorem join_fit {r : Rt} (hr : r.ok = true) (hb : 0 < r.bits) (he : r.net / 2 ^ (32 - r.bits).toNat % 2 = 0) (ht : (twinR r).net = r.net + 2 ^ (32 - r.bits).toNat) (addr : Int) : fitP (joinR r) addr ↔ fitP r addr ∨ fitP (twinR r) addr := by
  obtain ⟨p1, _, _, _⟩ := ok_split hr
  obtain ⟨m, m0, e1, e2⟩ := half_eq hr
  rw [e2] at he
  have p0 := pow_pos' (32 - r.bits).toNat
  unfold fitP fitB
  rw [decide_eq_true_iff, decide_eq_true_iff, decide_eq_true_iff, ht]
  have hb2 : (twinR r).bits = r.bits := rfl
  have hb3 : (joinR r).bits = r.bits - 1 := rfl
  have hn3 : (joinR r).net = r.net := rfl
  rw [hb2, hb3, hn3, show (32 - (r.bits - 1)).toNat = (32 - r.bits).toNat + 1 by omega, Int.pow_succ, e1]
  generalize (2 : Int) ^ (32 - r.bits).toNat = P at p0
  rw [← Int.ediv_ediv_of_nonneg (Int.le_of_lt p0)]
  generalize addr / P = q
  have c1 : ∀ x y : Int, x * P = y * P ↔ x = y := fun x y => ⟨fun h => Int.eq_of_mul_eq_mul_right (by omega) h, fun h => by rw [h]⟩
  have e3 : m * P + P = (m + 1) * P := by rw [Int.add_mul, Int.one_mul]
  have e4 : q / 2 * (P * 2) = (q / 2 * 2) * P := by rw [Int.mul_comm P 2, Int.mul_assoc]
  rw [e3, e4, c1, c1, c1]
  omega
theorem pair_hop {l : List Rt} (h : Fine l) (addr : Int) : hopL (pairL l) addr = hopL l addr := by
  rcases pair_or h with ⟨_, p⟩ | ⟨_, e⟩
  · have hF := pair_fine h
    generalize rtAt l (pairN l) = r at p
    have hjf := join_fit (h.ok r p.mem) p.pos p.even p.tnet addr
    have hbt : (twinR r).bits = r.bits := rfl
    have hht : (twinR r).hop = r.hop := rfl
    have hbj : (joinR r).bits = r.bits - 1 := rfl
    rcases best_or l addr with ⟨q, hq⟩ | hno
    · rw [h.hop hq]
      by_cases hqr : q = r ∨ q = twinR r
      · have hqh : q.hop = (joinR r).hop := by rcases hqr with rfl | rfl <;> rfl
        have hqb : q.bits = r.bits := by rcases hqr with rfl | rfl <;> rfl
        have hqf : fitP r addr ∨ fitP (twinR r) addr := by
          rcases hqr with e | e
          · left; rw [← e]; exact hq.fit
          · right; rw [← e]; exact hq.fit
        rw [hqh]
        refine hF.hop ⟨(p.members _).2 (.inl rfl), hjf.2 hqf, fun x hx hf => ?_⟩
        rcases (p.members x).1 hx with rfl | ⟨hx1, hx2⟩
        · exact Int.le_refl _
        · have hle := hq.most x hx1 hf
          rw [hbj]
          apply Classical.byContradiction
          intro hn
          have hxb : x.bits = q.bits := by omega
          have hxq : x = q := h.one x hx1 q hq.mem (fit_same hf hq.fit hxb) hxb
          apply hx2
          rw [gone_iff, hxq]
          rcases hqr with rfl | rfl
          · exact .inl ⟨rfl, rfl⟩
          · exact .inr (.inl ⟨rfl, rfl⟩)
      · have hkeep : (q.net, q.bits) ∉ goneL r := by
          rw [gone_iff]
          rintro (⟨a, b⟩ | ⟨a, b⟩ | ⟨a, b⟩)
          · exact hqr (.inl (h.one q hq.mem r p.mem a b))
          · exact hqr (.inr (h.one q hq.mem _ p.tmem a b))
          · have hj : fitP (joinR r) addr := by
              have := hq.fit
              unfold fitP at this ⊢
              rw [a, b] at this
              exact this
            rcases hjf.1 hj with hf | hf
            · have := hq.most r p.mem hf; omega
            · have := hq.most _ p.tmem hf; omega
        refine hF.hop ⟨(p.members _).2 (.inr ⟨hq.mem, hkeep⟩), hq.fit, fun x hx hf => ?_⟩
        rcases (p.members x).1 hx with rfl | ⟨hx1, _⟩
        · rw [hbj]
          rcases hjf.1 hf with hf | hf
          · have := hq.most r p.mem hf; omega
          · have := hq.most _ p.tmem hf; omega
        · exact hq.most x hx1 hf
    · rw [hop_none hno, hop_none]
      intro x hx hf
      rcases (p.members x).1 hx with rfl | ⟨hx1, _⟩
      · rcases hjf.1 hf with hf | hf
        · exact hno r p.mem hf
        · exact hno _ p.tmem hf
      · exact hno x hx1 hf
  · rw [e]
theorem pair_ok {l : List Rt} (h : rtsOk l = true) : rtsOk (pairL l) = true := by
  have hf := fine_of h
  have h64 := (ok_all h).1
  have h2 := pair_length hf
  exact ok_of (by omega) (pair_fine hf).ok (pair_fine hf).sorted
end Go.Proofs.Ytilnjmpnhadidaa

/-
  The longest route that fits, told by what it is; routes that say nothing new are left out, and nothing is said otherwise. By the verifier.
-/
import Derived.Test.YtilnjmpnhadidaaRtGood
namespace Go.Proofs.Ytilnjmpnhadidaa
open Go.RowKit

/-- Two of one place are one. -/
def OneAt (l : List Rt) : Prop := ∀ x ∈ l, ∀ y ∈ l, x.net = y.net → x.bits = y.bits → x = y
theorem oneAt_of {l : List Rt} (h : l.Pairwise fun a b => a.lt b = true) : OneAt l := by
  intro x hx y hy hn hb
  obtain ⟨i, hi, rfl⟩ := List.mem_iff_getElem.1 hx
  obtain ⟨j, hj, rfl⟩ := List.mem_iff_getElem.1 hy
  rcases Nat.lt_trichotomy i j with h1 | h1 | h1
  · exact absurd ⟨hn, hb⟩ (lt_irrefl' (List.pairwise_iff_getElem.1 h i j hi hj h1))
  · subst h1; rfl
  · exact absurd ⟨hn.symm, hb.symm⟩ (lt_irrefl' (List.pairwise_iff_getElem.1 h j i hj hi h1))
theorem OneAt.sub {l m : List Rt} (h : OneAt l) (hs : ∀ x ∈ m, x ∈ l) : OneAt m := fun x hx y hy => h x (hs x hx) y (hs y hy)
/-- Fits, of a right one: a shift says it. -/
def fitP (r : Rt) (addr : Int) : Prop := fitB r.net r.bits addr = true
theorem fit_same {x y : Rt} {addr : Int} (h1 : fitP x addr) (h2 : fitP y addr) (hb : x.bits = y.bits) : x.net = y.net := by
  unfold fitP fitB at h1 h2
  rw [decide_eq_true_iff] at h1 h2
  rw [← h1, ← h2, hb]
/-- The longest. -/
structure Best (l : List Rt) (addr : Int) (r : Rt) : Prop where
  mem : r ∈ l
  fit : fitP r addr
  most : ∀ x ∈ l, fitP x addr → x.bits ≤ r.bits
theorem best_or (l : List Rt) (addr : Int) : (∃ r, Best l addr r) ∨ ∀ x ∈ l, ¬ fitP x addr := by
  induction l with
  | nil => exact .inr (by simp)
  | cons y l ih =>
    by_cases hy : fitP y addr
    · left
      rcases ih with ⟨r, hr⟩ | hn
      · by_cases hb : r.bits ≤ y.bits
        · refine ⟨y, List.mem_cons_self, hy, fun x hx hf => ?_⟩
          rcases List.mem_cons.1 hx with rfl | hx
          · exact Int.le_refl _
          · have := hr.most x hx hf; omega
        · refine ⟨r, List.mem_cons_of_mem _ hr.mem, hr.fit, fun x hx hf => ?_⟩
          rcases List.mem_cons.1 hx with rfl | hx
          · omega
          · exact hr.most x hx hf
      · refine ⟨y, List.mem_cons_self, hy, fun x hx hf => ?_⟩
        rcases List.mem_cons.1 hx with rfl | hx
        · exact Int.le_refl _
        · exact absurd hf (hn x hx)
    · rcases ih with ⟨r, hr⟩ | hn
      · left
        refine ⟨r, List.mem_cons_of_mem _ hr.mem, hr.fit, fun x hx hf => ?_⟩
        rcases List.mem_cons.1 hx with rfl | hx
        · exact absurd hf hy
        · exact hr.most x hx hf
      · right
        intro x hx
        rcases List.mem_cons.1 hx with rfl | hx
        · exact hy
        · exact hn x hx
theorem fold_none (addr : Int) (l : List Rt) (s : Int × Int) (h : ∀ x ∈ l, ¬ fitP x addr) : l.foldl (hopStep addr) s = s := by
  induction l with
  | nil => rfl
  | cons y l ih =>
    rw [List.foldl_cons]
    have : hopStep addr s y = s := by
      unfold hopStep
      rw [if_neg]
      intro hh
      exact h y List.mem_cons_self hh.2
    rw [this, ih (fun x hx => h x (List.mem_cons_of_mem _ hx))]
theorem hop_none {l : List Rt} {addr : Int} (h : ∀ x ∈ l, ¬ fitP x addr) : hopL l addr = -1 := by unfold hopL; rw [fold_none addr l _ h]
/-- What the fold holds: the start, or one that fits. -/
theorem fold_some (addr : Int) (l : List Rt) : ∀ s : Int × Int, (l.foldl (hopStep addr) s = s ∨ ∃ x ∈ l, fitP x addr ∧ l.foldl (hopStep addr) s = (x.bits, x.hop)) ∧ s.1 ≤ (l.foldl (hopStep addr) s).1 ∧ ∀ x ∈ l, fitP x addr → x.bits ≤ (l.foldl (hopStep addr) s).1 := by
  induction l with
  | nil => intro s; exact ⟨.inl rfl, Int.le_refl _, by simp⟩
  | cons y l ih =>
    intro s
    rw [List.foldl_cons]
    obtain ⟨h1, h2, h3⟩ := ih (hopStep addr s y)
    by_cases hc : s.1 < y.bits ∧ fitB y.net y.bits addr = true
    · have e : hopStep addr s y = (y.bits, y.hop) := by unfold hopStep; rw [if_pos hc]
      rw [e] at h1 h2 h3 ⊢
      have h2' : y.bits ≤ (List.foldl (hopStep addr) (y.bits, y.hop) l).1 := h2
      refine ⟨?_, by omega, fun x hx hf => ?_⟩
      · rcases h1 with h1 | ⟨x, hx, hf, e2⟩
        · exact .inr ⟨y, List.mem_cons_self, hc.2, h1⟩
        · exact .inr ⟨x, List.mem_cons_of_mem _ hx, hf, e2⟩
      · rcases List.mem_cons.1 hx with rfl | hx
        · exact h2'
        · exact h3 x hx hf
    · have e : hopStep addr s y = s := by unfold hopStep; rw [if_neg hc]
      rw [e] at h1 h2 h3 ⊢
      refine ⟨?_, h2, fun x hx hf => ?_⟩
      · rcases h1 with h1 | ⟨x, hx, hf, e2⟩
        · exact .inl h1
        · exact .inr ⟨x, List.mem_cons_of_mem _ hx, hf, e2⟩
      · rcases List.mem_cons.1 hx with rfl | hx
        · have : ¬ s.1 < x.bits := fun hlt => hc ⟨hlt, hf⟩
          omega
        · exact h3 x hx hf
theorem hop_best {l : List Rt} {addr : Int} {r : Rt} (ho : OneAt l) (hp : ∀ x ∈ l, 0 ≤ x.bits) (h : Best l addr r) : hopL l addr = r.hop := by
  obtain ⟨h1, _, h3⟩ := fold_some addr l (-1, -1)
  have hr := h3 r h.mem h.fit
  have hb := hp r h.mem
  unfold hopL
  rcases h1 with h1 | ⟨x, hx, hf, e⟩
  · rw [h1] at hr
    have : r.bits ≤ -1 := hr
    omega
  · rw [e] at hr ⊢
    have hr' : r.bits ≤ x.bits := hr
    have := h.most x hx hf
    have hxr : x = r := ho x hx r h.mem (fit_same hf h.fit (by omega)) (by omega)
    rw [hxr]
/-- What is right of each. -/
structure Fine (l : List Rt) : Prop where
  ok : ∀ x ∈ l, x.ok = true
  sorted : l.Pairwise fun a b => a.lt b = true
theorem Fine.one {l : List Rt} (h : Fine l) : OneAt l := oneAt_of h.sorted
theorem Fine.bits {l : List Rt} (h : Fine l) : ∀ x ∈ l, 0 ≤ x.bits := fun x hx => (ok_split (h.ok x hx)).1.1
theorem fine_of {l : List Rt} (h : rtsOk l = true) : Fine l := ⟨(ok_all h).2.1, (ok_all h).2.2⟩
theorem Fine.filter {l : List Rt} (h : Fine l) (p : Rt → Bool) : Fine (l.filter p) := ⟨fun x hx => h.ok x (List.mem_filter.1 hx).1, h.sorted.filter _⟩
theorem Fine.hop {l : List Rt} (h : Fine l) {addr : Int} {r : Rt} (b : Best l addr r) : hopL l addr = r.hop := hop_best h.one h.bits b
/-- A shorter one that fits where a longer one does fits the longer one. -/
theorem fit_down {x y : Rt} {addr : Int} (hx : x.ok = true) (hy : y.ok = true) (hb : x.bits ≤ y.bits) (fy : fitP y addr) : fitP x addr ↔ fitP x y.net := by
  unfold fitP
  have kx := (ok_split hx).1
  have ky := (ok_split hy).1
  have e := (fit_iff hy).1 fy
  rw [fit_iff hx, fit_iff hx]
  obtain ⟨s, hs⟩ : ∃ s, (32 - y.bits).toNat = s := ⟨_, rfl⟩
  obtain ⟨t, ht⟩ : ∃ t, (32 - x.bits).toNat = s + t := ⟨(32 - x.bits).toNat - s, by omega⟩
  rw [hs] at e
  have f : ∀ n : Int, n / 2 ^ (32 - x.bits).toNat = n / 2 ^ s / 2 ^ t := by
    intro n
    rw [ht, Int.pow_add, Int.ediv_ediv_of_nonneg (Int.le_of_lt (pow_pos' _))]
  rw [f, f, f, e]

/-- The hop of the longest of those with less bits that fits its net. -/
def aboveV (l : List Rt) (r : Rt) : Int := hopL (l.filter fun x => decide (x.bits < r.bits)) r.net
def trimL (l : List Rt) : List Rt := l.filter fun r => !decide (aboveV l r = r.hop)
theorem trim_mem {l : List Rt} {x : Rt} : x ∈ trimL l ↔ x ∈ l ∧ aboveV l x ≠ x.hop := by
  unfold trimL
  rw [List.mem_filter]
  simp
/-- One that fits says the same as one that is left, and none between is left. -/
theorem trim_find {l : List Rt} (h : Fine l) (addr : Int) : ∀ n : Nat, ∀ r ∈ l, r.bits.toNat = n → fitP r addr → ∃ t ∈ trimL l, fitP t addr ∧ t.bits ≤ r.bits ∧ t.hop = r.hop ∧ ∀ x ∈ trimL l, fitP x addr → x.bits ≤ r.bits → x.bits ≤ t.bits := by
  intro n
  induction n using Nat.strongRecOn with
  | _ n ih =>
    intro r hr hn fr
    by_cases ht : r ∈ trimL l
    · exact ⟨r, ht, fr, Int.le_refl _, rfl, fun x _ _ hb => hb⟩
    · have ha : aboveV l r = r.hop := Classical.byContradiction fun hc => ht (trim_mem.2 ⟨hr, hc⟩)
      unfold aboveV at ha
      have hf := h.filter (fun x => decide (x.bits < r.bits))
      have hpos := (ok_split (h.ok r hr)).2.2.2.1
      rcases best_or (l.filter fun x => decide (x.bits < r.bits)) r.net with ⟨q, hq⟩ | hno
      · rw [hf.hop hq] at ha
        obtain ⟨hql, hqb⟩ := List.mem_filter.1 hq.mem
        rw [decide_eq_true_iff] at hqb
        have fq : fitP q addr := (fit_down (h.ok q hql) (h.ok r hr) (by omega) fr).2 hq.fit
        have kq := (ok_split (h.ok q hql)).1
        obtain ⟨t, t1, t2, t3, t4, t5⟩ := ih q.bits.toNat (by omega) q hql rfl fq
        refine ⟨t, t1, t2, by omega, by rw [t4, ha], fun x hx hfx hb => ?_⟩
        obtain ⟨hxl, hxa⟩ := trim_mem.1 hx
        by_cases hxr : x.bits = r.bits
        · have : x = r := h.one x hxl r hr (fit_same hfx fr hxr) hxr
          rw [this] at hx
          exact absurd hx ht
        · have : x.bits ≤ q.bits := hq.most x (List.mem_filter.2 ⟨hxl, by rw [decide_eq_true_iff]; omega⟩) ((fit_down (h.ok x hxl) (h.ok r hr) (by omega) fr).1 hfx)
          exact t5 x hx hfx this
      · rw [hop_none hno] at ha
        omega
theorem trim_hop {l : List Rt} (h : Fine l) (addr : Int) : hopL (trimL l) addr = hopL l addr := by
  have hT : Fine (trimL l) := h.filter _
  rcases best_or l addr with ⟨r, hr⟩ | hno
  · obtain ⟨t, t1, t2, t3, t4, t5⟩ := trim_find h addr _ r hr.mem rfl hr.fit
    rw [h.hop hr, ← t4]
    exact hT.hop ⟨t1, t2, fun x hx hf => t5 x hx hf (hr.most x (trim_mem.1 hx).1 hf)⟩
  · rw [hop_none hno, hop_none fun x hx => hno x (trim_mem.1 hx).1]
theorem trim_ok {l : List Rt} (h : rtsOk l = true) : rtsOk (trimL l) = true ∧ (trimL l).length ≤ l.length := by
  obtain ⟨h1, h2, h3⟩ := ok_all h
  have hl : (trimL l).length ≤ l.length := List.length_filter_le _ _
  exact ⟨ok_of (by omega) (fun x hx => h2 x (trim_mem.1 hx).1) (h3.filter _), hl⟩

/-- In order and with the same ones: the same. -/
theorem sorted_ext : ∀ {l m : List Rt}, (l.Pairwise fun a b => a.lt b = true) → (m.Pairwise fun a b => a.lt b = true) → (∀ x, x ∈ l ↔ x ∈ m) → l = m
  | [], [], _, _, _ => rfl
  | [], y :: m, _, _, h => absurd ((h y).2 List.mem_cons_self) (by simp)
  | x :: l, [], _, _, h => absurd ((h x).1 List.mem_cons_self) (by simp)
  | x :: l, y :: m, hl, hm, h => by
    obtain ⟨hx, hl'⟩ := List.pairwise_cons.1 hl
    obtain ⟨hy, hm'⟩ := List.pairwise_cons.1 hm
    have hxy : x = y := by
      rcases List.mem_cons.1 ((h x).1 List.mem_cons_self) with e | e
      · exact e
      · rcases List.mem_cons.1 ((h y).2 List.mem_cons_self) with e2 | e2
        · exact e2.symm
        · have a := lt_iff.1 (hy x e)
          have b := lt_iff.1 (hx y e2)
          omega
    subst hxy
    congr 1
    refine sorted_ext hl' hm' fun z => ⟨fun hz => ?_, fun hz => ?_⟩
    · rcases List.mem_cons.1 ((h z).1 (List.mem_cons_of_mem _ hz)) with e | e
      · subst e; exact absurd ⟨rfl, rfl⟩ (lt_irrefl' (hx z hz))
      · exact e
    · rcases List.mem_cons.1 ((h z).2 (List.mem_cons_of_mem _ hz)) with e | e
      · subst e; exact absurd ⟨rfl, rfl⟩ (lt_irrefl' (hy z hz))
      · exact e
end Go.Proofs.Ytilnjmpnhadidaa

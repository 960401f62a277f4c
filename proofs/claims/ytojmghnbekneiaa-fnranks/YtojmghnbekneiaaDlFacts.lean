/-
  Deals: what one that went, or came, leaves; ranks; the round of the hosts. By the verifier.
-/
import Derived.Test.YtojmghnbekneiaaDlGap
namespace Go.Proofs.Ytojmghnbekneiaa
open Go.RowKit

theorem hsAt_set_ne {l : List Hs} {i k : Nat} {x : Hs} (h : i ≠ k) : hsAt (l.set k x) i = hsAt l i := by
  unfold hsAt
  simp [Ne.symm h]
theorem hsAt_set_eq {l : List Hs} {k : Nat} {x : Hs} (h : k < l.length) : hsAt (l.set k x) k = x := by
  unfold hsAt
  simp [h]
theorem flAt_set_eq {l : List Int} {k : Nat} {x : Int} (h : k < l.length) : flAt (l.set k x) k = x := by
  unfold flAt
  simp [h]
theorem waits_set {l : List Hs} {k : Nat} (h : k < l.length) (x : Hs) : tot ((l.set k x).map Hs.sum) = tot (l.map Hs.sum) - (hsAt l k).sum + x.sum := by
  rw [List.map_set, tot_set _ _ (by simpa using h)]
  simp [hsAt_lt h, List.getElem?_map, List.getElem?_eq_getElem h]

/-- What one that went leaves. -/
theorem Dl.went_is {d : Dl} (hk : d.ok = true) (hh : d.has = true) : d.went = ⟨((d.at' + 1) % d.hosts.length : Nat), d.hosts.set d.at' (hsAt d.hosts d.at').less⟩ := by
  unfold Dl.went
  rw [if_pos hk, if_pos hh]
theorem Dl.went_not {d : Dl} (hk : d.ok = true) (hh : d.has = false) : d.went = d := by
  unfold Dl.went
  rw [if_pos hk, if_neg (by rw [hh]; simp)]
theorem Dl.went_bad {d : Dl} (hk : d.ok = false) : d.went = ⟨0, []⟩ := by
  unfold Dl.went
  rw [if_neg (by rw [hk]; simp)]
theorem Dl.wentH_is {d : Dl} (hk : d.ok = true) (hh : d.has = true) : d.wentH = (d.at' : Nat) := by
  unfold Dl.wentH
  rw [if_pos ⟨hk, hh⟩]
theorem Dl.wentF_is {d : Dl} (hk : d.ok = true) (hh : d.has = true) : d.wentF = ((hsAt d.hosts d.at').at' : Nat) := by
  unfold Dl.wentF
  rw [if_pos ⟨hk, hh⟩]
theorem Dl.wentH_not {d : Dl} (h : d.ok = false ∨ d.has = false) : d.wentH = -1 := by
  unfold Dl.wentH
  rw [if_neg (by rintro ⟨a, b⟩; rcases h with h | h <;> simp_all)]
theorem Dl.went_len {d : Dl} (hk : d.ok = true) : d.went.hosts.length = d.hosts.length := by
  by_cases hh : d.has = true
  · rw [Dl.went_is hk hh]; simp
  · rw [Dl.went_not hk (by simpa using hh)]
theorem Dl.went_other {d : Dl} (hk : d.ok = true) (hh : d.has = true) {i : Nat} (h : i ≠ d.at') : hsAt d.went.hosts i = hsAt d.hosts i := by
  rw [Dl.went_is hk hh]
  exact hsAt_set_ne h
theorem Dl.went_turn {d : Dl} (hk : d.ok = true) (hh : d.has = true) : d.went.turn.toNat = (d.at' + 1) % d.hosts.length := by
  rw [Dl.went_is hk hh]
  rfl
theorem Hs.less_sum {h : Hs} (hk : h.ok = true) : h.less.sum = h.sum - 1 := by
  unfold Hs.less Hs.sum
  simp only
  rw [tot_set _ _ (Hs.at_lt hk)]
  unfold flAt
  omega
theorem Dl.went_waits {d : Dl} (hk : d.ok = true) (hh : d.has = true) : d.went.waiting = d.waiting - 1 := by
  unfold Dl.waiting
  rw [if_pos hk, if_pos (Dl.went_ok hk), Dl.went_is hk hh]
  unfold Dl.waits
  simp only
  rw [waits_set (Dl.at_lt hk), Hs.less_sum (Dl.ok_at hk (Dl.at_lt hk))]
  omega
theorem Dl.went_flow {d : Dl} (hk : d.ok = true) (hh : d.has = true) : flAt (hsAt d.went.hosts d.at').flows (hsAt d.hosts d.at').at' + 1 = flAt (hsAt d.hosts d.at').flows (hsAt d.hosts d.at').at' := by
  rw [Dl.went_is hk hh]
  simp only
  rw [hsAt_set_eq (Dl.at_lt hk)]
  unfold Hs.less
  simp only
  rw [flAt_set_eq (Hs.at_lt (Dl.ok_at hk (Dl.at_lt hk)))]
  omega
theorem Hs.some_false {h : Hs} : h.some = false ↔ h.sum = 0 := by
  unfold Hs.some
  simp
/-- Every host is met from the turn on. -/
theorem Dl.gap_at {d : Dl} (hk : d.ok = true) {h : Nat} (hh : h < d.hosts.length) : (d.turn.toNat + d.gap h) % d.hosts.length = h := ((Dl.gap_is hk hh).2 _ (Nat.le_refl _)).2 rfl
theorem Dl.none_all {d : Dl} (hk : d.ok = true) (hh : d.has = false) : ∀ i, i < d.hosts.length → (hsAt d.hosts i).some = false := by
  intro i hi
  have h1 : d.far = d.hosts.length := by
    have := seek_le (fun i => (hsAt d.hosts i).some) d.turn.toNat d.hosts.length
    unfold Dl.has at hh
    have h2 := of_decide_eq_false hh
    unfold Dl.far at h2 ⊢
    omega
  have h3 := seek_not (p := fun i => (hsAt d.hosts i).some) (s := d.turn.toNat) (n := d.hosts.length) (k := d.gap i) (by
    have := (Dl.gap_is hk hi).1
    unfold Dl.far at h1
    omega)
  rw [Dl.gap_at hk hi] at h3
  exact h3
theorem Dl.none_waits {d : Dl} (hk : d.ok = true) (hh : d.has = false) : d.waiting = 0 := by
  unfold Dl.waiting
  rw [if_pos hk]
  unfold Dl.waits
  apply (tot_zero ?_).2
  · intro x hx
    obtain ⟨y, hy, rfl⟩ := List.mem_map.1 hx
    obtain ⟨i, hi, rfl⟩ := List.mem_iff_getElem.1 hy
    have := Dl.none_all hk hh i hi
    rw [hsAt_lt hi] at this
    exact Hs.some_false.1 this
  · intro x hx
    obtain ⟨y, hy, rfl⟩ := List.mem_map.1 hx
    exact (Hs.sum_in ((Dl.ok_iff.1 hk).2.2 y hy)).1
/-- One that came. -/
theorem Dl.came_is {d : Dl} {host flow : Int} (h : d.cameB host flow = true) : d.came host flow = ⟨d.turn, d.hosts.set host.toNat ((hsAt d.hosts host.toNat).more flow.toNat)⟩ := by
  unfold Dl.cameB at h
  rw [Bool.and_eq_true] at h
  unfold Dl.came
  rw [if_pos h.1, if_pos h.2]
theorem Dl.came_not {d : Dl} {host flow : Int} (hk : d.ok = true) (h : d.cameB host flow = false) : d.came host flow = d := by
  unfold Dl.cameB at h
  rw [hk, Bool.true_and] at h
  unfold Dl.came
  rw [if_pos hk, if_neg (by rw [h]; simp)]
theorem Dl.came_facts {d : Dl} {host flow : Int} (h : d.cameB host flow = true) : d.ok = true ∧ (0 ≤ host ∧ host.toNat < d.hosts.length) ∧ (0 ≤ flow ∧ flow.toNat < (hsAt d.hosts host.toNat).flows.length) ∧ flAt (hsAt d.hosts host.toNat).flows flow.toNat ≠ 1000 := by
  unfold Dl.cameB at h
  rw [Bool.and_eq_true] at h
  have h2 := of_decide_eq_true h.2
  exact ⟨h.1, ⟨h2.1.1, by omega⟩, ⟨h2.2.1.1, by omega⟩, h2.2.2⟩
theorem Hs.more_sum {h : Hs} {j : Nat} (hj : j < h.flows.length) : (h.more j).sum = h.sum + 1 := by
  unfold Hs.more Hs.sum
  simp only
  rw [tot_set _ _ hj]
  unfold flAt
  omega
theorem Dl.came_ok {d : Dl} {host flow : Int} (h : d.cameB host flow = true) : (d.came host flow).ok = true := by
  obtain ⟨hk, h1, h2, h3⟩ := Dl.came_facts h
  have k1 := Dl.ok_iff.1 hk
  rw [Dl.came_is h, Dl.ok_iff]
  simp only [List.length_set]
  refine ⟨k1.1, k1.2.1, fun x hx => ?_⟩
  rcases mem_set hx with hx | rfl
  · exact k1.2.2 x hx
  · have k2 := Hs.ok_iff.1 (Dl.ok_at hk h1.2)
    rw [Hs.ok_iff]
    unfold Hs.more
    simp only [List.length_set]
    refine ⟨k2.1, k2.2.1, fun x hx => ?_⟩
    rcases mem_set hx with hx | rfl
    · exact k2.2.2 x hx
    · have := k2.2.2 _ (flAt_mem h2.2)
      omega
theorem Dl.came_waits {d : Dl} {host flow : Int} (h : d.cameB host flow = true) : (d.came host flow).waiting = d.waiting + 1 := by
  obtain ⟨hk, h1, h2, h3⟩ := Dl.came_facts h
  unfold Dl.waiting
  rw [if_pos hk, if_pos (Dl.came_ok h), Dl.came_is h]
  unfold Dl.waits
  simp only
  rw [waits_set h1.2, Hs.more_sum h2.2]
  omega
theorem Dl.came_rank {d : Dl} {host flow : Int} (h : d.cameB host flow = true) : 0 ≤ (d.came host flow).rank host := by
  obtain ⟨hk, h1, h2, h3⟩ := Dl.came_facts h
  have e : (d.came host flow).isRanked host = true := by
    unfold Dl.isRanked
    rw [Dl.came_ok h, Dl.came_is h]
    simp only [List.length_set, Bool.true_and, Bool.and_eq_true, inB_true]
    refine ⟨by omega, ?_⟩
    rw [hsAt_set_eq h1.2]
    unfold Hs.some
    rw [Hs.more_sum h2.2]
    have := (Hs.sum_in (Dl.ok_at hk h1.2)).1
    simp only [decide_eq_true_eq]
    omega
  unfold Dl.rank
  rw [if_pos e]
  omega

/-- Ranks. -/
theorem cnt_add (p : Nat → Bool) (s n a b : Nat) : cnt p s n (a + b) = cnt p s n a + cnt p ((s + a) % n) n b := by
  induction b with
  | zero => rfl
  | succ b ih =>
    show cnt p s n (a + b) + (if p ((s + (a + b)) % n) = true then 1 else 0) = cnt p s n a + (cnt p ((s + a) % n) n b + if p (((s + a) % n + b) % n) = true then 1 else 0)
    rw [ih, Nat.mod_add_mod, Nat.add_assoc s a b]
    omega
theorem cnt_none {p : Nat → Bool} {s n k : Nat} (h : ∀ j, j < k → p ((s + j) % n) = false) : cnt p s n k = 0 := by
  induction k with
  | zero => rfl
  | succ k ih =>
    simp only [cnt]
    rw [ih fun j hj => h j (by omega), h k (by omega)]
    simp
theorem cnt_congr {p q : Nat → Bool} {s n k : Nat} (h : ∀ j, j < k → p ((s + j) % n) = q ((s + j) % n)) : cnt p s n k = cnt q s n k := by
  induction k with
  | zero => rfl
  | succ k ih =>
    simp only [cnt]
    rw [ih fun j hj => h j (by omega), h k (by omega)]
theorem cnt_first {p : Nat → Bool} {s n k : Nat} (h : ∀ j, j < k → p ((s + j) % n) = false) (hk : p ((s + k) % n) = true) : cnt p s n (k + 1) = 1 := by
  show cnt p s n k + (if p ((s + k) % n) = true then 1 else 0) = 1
  rw [cnt_none h, if_pos hk]
theorem Dl.rank_pos {d : Dl} {host : Int} (h : 0 ≤ d.rank host) : d.ok = true ∧ (0 ≤ host ∧ host.toNat < d.hosts.length) ∧ (hsAt d.hosts host.toNat).some = true ∧ d.rank host = (cnt (fun i => (hsAt d.hosts i).some) d.turn.toNat d.hosts.length (d.gap host.toNat) : Nat) := by
  unfold Dl.rank at h ⊢
  by_cases e : d.isRanked host = true
  · rw [if_pos e]
    unfold Dl.isRanked at e
    simp only [Bool.and_eq_true, inB_true] at e
    exact ⟨e.1, by omega, e.2.2, rfl⟩
  · rw [if_neg e] at h
    omega
theorem Dl.rank_is {d : Dl} {host : Int} (hk : d.ok = true) (h : 0 ≤ host ∧ host.toNat < d.hosts.length) (hs : (hsAt d.hosts host.toNat).some = true) : d.rank host = (cnt (fun i => (hsAt d.hosts i).some) d.turn.toNat d.hosts.length (d.gap host.toNat) : Nat) := by
  have e : d.isRanked host = true := by
    unfold Dl.isRanked
    simp only [Bool.and_eq_true, inB_true]
    exact ⟨hk, by omega, hs⟩
  unfold Dl.rank
  rw [if_pos e]
theorem Dl.rank_not {d : Dl} {host : Int} (h : (hsAt d.hosts host.toNat).some = false) : d.rank host < 0 := by
  apply Classical.byContradiction
  intro hn
  have := (Dl.rank_pos (d := d) (host := host) (by omega)).2.2.1
  rw [h] at this
  cases this
/-- Positions from s on are other hosts. -/
theorem step_ne {s n i j : Nat} (hi : i < j) (hj : j < n) : (s + i) % n ≠ (s + j) % n := by
  intro e
  have hn : 0 < n := by omega
  have e1 := Nat.div_add_mod (s + i) n
  have e2 := Nat.div_add_mod (s + j) n
  rw [e] at e1
  have e3 : n * ((s + j) / n) = n * ((s + i) / n) + (j - i) := by omega
  have e4 : n * ((s + j) / n - (s + i) / n) = j - i := by rw [Nat.mul_sub]; omega
  generalize (s + j) / n - (s + i) / n = m at e4
  cases m with
  | zero => omega
  | succ m => rw [Nat.mul_add] at e4; omega
theorem Dl.far_le {d : Dl} (hk : d.ok = true) {h : Nat} (hh : h < d.hosts.length) (hs : (hsAt d.hosts h).some = true) : d.far ≤ d.gap h := by
  apply Classical.byContradiction
  intro hn
  have := seek_not (p := fun i => (hsAt d.hosts i).some) (s := d.turn.toNat) (n := d.hosts.length) (k := d.gap h) (by unfold Dl.far at hn; omega)
  rw [Dl.gap_at hk hh, hs] at this
  cases this
theorem Dl.has_of {d : Dl} (hk : d.ok = true) {h : Nat} (hh : h < d.hosts.length) (hs : (hsAt d.hosts h).some = true) : d.has = true := by
  have := Dl.far_le hk hh hs
  have := (Dl.gap_is hk hh).1
  unfold Dl.has
  simp only [decide_eq_true_eq]
  omega
theorem Dl.at_none {d : Dl} {j : Nat} (hj : j < d.far) : (hsAt d.hosts ((d.turn.toNat + j) % d.hosts.length)).some = false :=
  seek_not (p := fun i => (hsAt d.hosts i).some) hj
/-- The step of a rank. -/
theorem Dl.rank_next {d : Dl} {host : Int} (h : 0 ≤ d.rank host) : 0 ≤ d.wentH ∧ (d.rank host = 0 → d.wentH = host) ∧ (0 < d.rank host → d.wentH ≠ host ∧ d.went.rank host = d.rank host - 1) := by
  obtain ⟨hk, h1, h2, h3⟩ := Dl.rank_pos h
  have hh := Dl.has_of hk h1.2 h2
  have hf := Dl.far_le hk h1.2 h2
  have hg := (Dl.gap_is hk h1.2).1
  have ha := Dl.gap_at hk h1.2
  have hs := Dl.at_some hh
  have ei := Dl.wentH_is hk hh
  refine ⟨by omega, ?_, ?_⟩
  · intro e0
    have e1 : d.far = d.gap host.toNat := by
      apply Classical.byContradiction
      intro hn
      obtain ⟨m, hm⟩ : ∃ m, d.gap host.toNat = (d.far + 1) + m := ⟨d.gap host.toNat - (d.far + 1), by omega⟩
      rw [hm, cnt_add, cnt_first (p := fun i => (hsAt d.hosts i).some) (fun j hj => Dl.at_none hj) hs] at h3
      omega
    rw [ei]
    unfold Dl.at'
    rw [e1, ha]
    omega
  · intro e0
    have e1 : d.far ≠ d.gap host.toNat := by
      intro e
      rw [← e, cnt_none fun j hj => Dl.at_none hj] at h3
      omega
    have hne : d.at' ≠ host.toNat := by
      unfold Dl.at'
      rw [← ha]
      exact step_ne (by omega) hg
    refine ⟨by omega, ?_⟩
    obtain ⟨m, hm⟩ : ∃ m, d.gap host.toNat = (d.far + 1) + m := ⟨d.gap host.toNat - (d.far + 1), by omega⟩
    have hl := Dl.went_len hk
    have ho := Dl.went_other hk hh (Ne.symm hne)
    have hko := Dl.went_ok hk
    have ht := Dl.went_turn hk hh
    have ht2 : d.went.turn.toNat = (d.turn.toNat + (d.far + 1)) % d.hosts.length := by
      rw [ht]; unfold Dl.at'
      rw [Nat.mod_add_mod, Nat.add_assoc]
    rw [Dl.rank_is hko (by rw [hl]; exact h1) (by rw [ho]; exact h2), h3]
    have hgm : d.went.gap host.toNat = m := by
      refine ((Dl.gap_is hko (h := host.toNat) (by rw [hl]; exact h1.2)).2 m ?_).1 ?_ |>.symm
      · apply Classical.byContradiction
        intro hn
        have q1 := Dl.gap_at hko (h := host.toNat) (by rw [hl]; exact h1.2)
        rw [hl, ht2, Nat.mod_add_mod, Nat.add_assoc] at q1
        have q2 : (d.turn.toNat + (d.far + 1 + d.went.gap host.toNat)) % d.hosts.length ≠ (d.turn.toNat + d.gap host.toNat) % d.hosts.length := step_ne (by omega) hg
        rw [q1, ha] at q2
        exact q2 rfl
      · rw [hl, ht2, Nat.mod_add_mod, Nat.add_assoc, ← hm, ha]
    rw [hgm, hl, ht2, hm, cnt_add]
    have c1 : cnt (fun i => (hsAt d.hosts i).some) d.turn.toNat d.hosts.length (d.far + 1) = 1 := cnt_first (p := fun i => (hsAt d.hosts i).some) (fun j hj => Dl.at_none hj) hs
    have c2 : cnt (fun i => (hsAt d.went.hosts i).some) ((d.turn.toNat + (d.far + 1)) % d.hosts.length) d.hosts.length m = cnt (fun i => (hsAt d.hosts i).some) ((d.turn.toNat + (d.far + 1)) % d.hosts.length) d.hosts.length m := by
      apply cnt_congr
      intro j hj
      rw [Dl.went_other hk hh]
      rw [Nat.mod_add_mod, Nat.add_assoc]
      unfold Dl.at'
      exact Ne.symm (step_ne (by omega) (by omega))
    rw [c1, c2]
    omega

/-- The round of the hosts: what is known of y, some steps behind x. -/
def Ho (x : Dl) (h0 : Nat) (y : Dl) (seen : List Int) : Prop :=
  y.ok = true ∧ y.hosts.length = x.hosts.length ∧ (((hsAt x.hosts h0).some = false ∧ hsAt y.hosts h0 = hsAt x.hosts h0) ∨
    ∃ q, q < x.hosts.length ∧ y.turn.toNat = (x.turn.toNat + q) % x.hosts.length ∧
      (∀ k, q ≤ k → k < x.hosts.length → hsAt y.hosts ((x.turn.toNat + k) % x.hosts.length) = hsAt x.hosts ((x.turn.toNat + k) % x.hosts.length)) ∧
      (∀ k, k < q → (((x.turn.toNat + k) % x.hosts.length : Nat) : Int) ∈ seen ∨ (hsAt x.hosts ((x.turn.toNat + k) % x.hosts.length)).some = false) ∧
      ((h0 : Int) ∈ seen) ∧
      (∀ s ∈ seen, s = (h0 : Int) ∨ ∃ k, k < q ∧ s = (((x.turn.toNat + k) % x.hosts.length : Nat) : Int)))
theorem Ho.first {x : Dl} (hk : x.ok = true) {h0 : Nat} : Ho x h0 x [(h0 : Int)] := by
  have h1 := Dl.ok_iff.1 hk
  refine ⟨hk, rfl, .inr ⟨0, by omega, ?_, fun _ _ _ => rfl, fun k hk => by omega, by simp, fun s hs => .inl (by simpa using hs)⟩⟩
  rw [Nat.add_zero, Nat.mod_eq_of_lt (by omega)]
theorem Ho.step {x : Dl} (hk : x.ok = true) {h0 : Nat} (h0l : h0 < x.hosts.length) (hg : x.gap h0 = x.hosts.length - 1) {y : Dl} {seen : List Int} (H : Ho x h0 y seen) (hw : 0 ≤ y.wentH) :
    (y.wentH = h0 → ∀ k : Nat, k < x.hosts.length → 0 ≤ x.rank k → (k : Int) ∈ seen) ∧ (y.wentH ≠ h0 → y.wentH ∈ seen → x.rank h0 < 0) ∧ (y.wentH ≠ h0 → y.wentH ∉ seen → Ho x h0 y.went (seen ++ [y.wentH])) := by
  obtain ⟨hy, hl, H⟩ := H
  have hh : y.has = true := by
    apply Classical.byContradiction
    intro hn
    rw [Dl.wentH_not (.inr (by simpa using hn))] at hw
    omega
  have ei := Dl.wentH_is hy hh
  have hs := Dl.at_some hh
  have hal := Dl.at_lt hy
  rw [ei]
  have two : (hsAt x.hosts h0).some = false → hsAt y.hosts h0 = hsAt x.hosts h0 → (((y.at' : Nat) : Int) = h0 → ∀ k : Nat, k < x.hosts.length → 0 ≤ x.rank k → (k : Int) ∈ seen) ∧ (((y.at' : Nat) : Int) ≠ h0 → ((y.at' : Nat) : Int) ∈ seen → x.rank h0 < 0) ∧ (((y.at' : Nat) : Int) ≠ h0 → ((y.at' : Nat) : Int) ∉ seen → Ho x h0 y.went (seen ++ [((y.at' : Nat) : Int)])) := by
    intro s1 s2
    refine ⟨fun e => ?_, fun _ _ => Dl.rank_not (by simpa using s1), fun e _ => ?_⟩
    · have e' : y.at' = h0 := by omega
      rw [e', s2, s1] at hs
      cases hs
    · exact ⟨Dl.went_ok hy, by rw [Dl.went_len hy, hl], .inl ⟨s1, by rw [Dl.went_other hy hh (by omega)]; exact s2⟩⟩
  rcases H with ⟨s1, s2⟩ | ⟨q, hq, ht, ho, hse, hm, hsn⟩
  · exact two s1 s2
  · have hf : y.far < y.hosts.length := of_decide_eq_true hh
    have hn : 0 < x.hosts.length := by omega
    have pos : ∀ j, (y.turn.toNat + j) % y.hosts.length = (x.turn.toNat + (q + j)) % x.hosts.length := fun j => by
      rw [hl, ht, Nat.mod_add_mod, Nat.add_assoc]
    have hat : y.at' = (x.turn.toNat + (q + y.far)) % x.hosts.length := by unfold Dl.at'; exact pos _
    have hga := Dl.gap_at hk h0l
    rw [hg] at hga
    have hnone : ∀ k, q ≤ k → k < q + y.far → k < x.hosts.length → (hsAt x.hosts ((x.turn.toNat + k) % x.hosts.length)).some = false := by
      intro k k1 k2 k3
      have := Dl.at_none (d := y) (j := k - q) (by omega)
      rw [pos, show q + (k - q) = k by omega, ho k k1 k3] at this
      exact this
    by_cases c : x.hosts.length - 1 < q + y.far
    · exact two (by have := hnone (x.hosts.length - 1) (by omega) c (by omega); rwa [hga] at this) (by have := ho (x.hosts.length - 1) (by omega) (by omega); rwa [hga] at this)
    · refine ⟨fun e k kl kr => ?_, fun e em => ?_, fun e em => ?_⟩
      · have e' : q + y.far = x.hosts.length - 1 := by
          apply Classical.byContradiction
          intro hne
          have := step_ne (s := x.turn.toNat) (n := x.hosts.length) (i := q + y.far) (j := x.hosts.length - 1) (by omega) (by omega)
          rw [← hat, hga] at this
          omega
        have g1 := Dl.gap_at hk kl
        have g2 := (Dl.gap_is hk kl).1
        have g3 := (Dl.rank_pos kr).2.2.1
        simp only [Int.toNat_natCast] at g3
        by_cases d1 : x.gap k < q
        · rcases hse _ d1 with d2 | d2
          · rwa [g1] at d2
          · rw [g1, g3] at d2; cases d2
        · by_cases d3 : x.gap k < q + y.far
          · have d4 := hnone _ (by omega) d3 (by omega)
            rw [g1, g3] at d4; cases d4
          · have d5 : x.gap k = x.hosts.length - 1 := by omega
            rw [d5, hga] at g1
            rw [← g1]; exact hm
      · exfalso
        rcases hsn _ em with d1 | ⟨k, k1, k2⟩
        · exact e d1
        · have := step_ne (s := x.turn.toNat) (n := x.hosts.length) (i := k) (j := q + y.far) (by omega) (by omega)
          rw [← hat] at this
          omega
      · have hne : q + y.far ≠ x.hosts.length - 1 := by
          intro e'
          rw [e', hga] at hat
          omega
        refine ⟨Dl.went_ok hy, by rw [Dl.went_len hy, hl], .inr ⟨q + y.far + 1, by omega, ?_, ?_, ?_, ?_, ?_⟩⟩
        · rw [Dl.went_turn hy hh, hl, hat, Nat.mod_add_mod, Nat.add_assoc, Nat.add_assoc]
        · intro k k1 k2
          rw [Dl.went_other hy hh, ho k (by omega) k2]
          rw [hat]
          exact Ne.symm (step_ne (by omega) k2)
        · intro k k1
          by_cases d1 : k < q
          · rcases hse k d1 with d2 | d2
            · exact .inl (List.mem_append_left _ d2)
            · exact .inr d2
          · by_cases d3 : k < q + y.far
            · exact .inr (hnone k (by omega) d3 (by omega))
            · have : k = q + y.far := by omega
              subst this
              left
              rw [hat]
              simp
        · exact List.mem_append_left _ hm
        · intro s hs'
          rcases List.mem_append.1 hs' with d1 | d1
          · rcases hsn s d1 with d2 | ⟨k, k1, k2⟩
            · exact .inl d2
            · exact .inr ⟨k, by omega, k2⟩
          · right
            refine ⟨q + y.far, by omega, ?_⟩
            rw [← hat]
            simpa using d1
/-- Behind the first that went. -/
theorem Dl.went_gap {d : Dl} (hk : d.ok = true) (hh : d.has = true) : d.went.gap d.at' = d.went.hosts.length - 1 := by
  have h1 := Dl.ok_iff.1 hk
  have hl := Dl.went_len hk
  have ht := Dl.went_turn hk hh
  have ha := Dl.at_lt hk
  unfold Dl.gap
  rw [hl, ht]
  generalize d.hosts.length = n at *
  generalize d.at' = a at *
  by_cases c : a + 1 < n
  · rw [Nat.mod_eq_of_lt c, show a + n - (a + 1) = n - 1 by omega, Nat.mod_eq_of_lt (by omega)]
  · have e : a + 1 = n := by omega
    rw [e, Nat.mod_self, Nat.sub_zero, Nat.add_mod_right, Nat.mod_eq_of_lt ha]
    omega
end Go.Proofs.Ytojmghnbekneiaa

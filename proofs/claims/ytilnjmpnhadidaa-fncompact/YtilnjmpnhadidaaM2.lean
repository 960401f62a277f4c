import Derived.Test.YtilnjmpnhadidaaM1
import Derived.Test.YtilnjmpnhadidaaRtApp
import Derived.Test.YtilnjmpnhadidaaRtOkS
/-
  The longest route that fits, as plain data; bit by bit it is found in the half that the address belongs to. By the verifier.
-/
namespace Go.Proofs.Ytilnjmpnhadidaa
open Go.RowKit

/-- One route more looked at. -/
def hopStep (addr : Int) (s : Int × Int) (r : Rt) : Int × Int := if s.1 < r.bits ∧ fitB r.net r.bits addr = true then (r.bits, r.hop) else s
/-- The hop of the longest that fits. -/
def hopL (l : List Rt) (addr : Int) : Int := (l.foldl (hopStep addr) (-1, -1)).2

theorem fold_filter (addr : Int) (l : List Rt) : ∀ s, l.foldl (hopStep addr) s = (l.filter fun r => fitB r.net r.bits addr).foldl (hopStep addr) s := by
  induction l with
  | nil => intro s; rfl
  | cons r l ih =>
    intro s
    cases hf : fitB r.net r.bits addr
    · rw [List.filter_cons_of_neg (by simp [hf]), List.foldl_cons, ih]
      congr 1
      simp [hopStep, hf]
    · rw [List.filter_cons_of_pos (by simp [hf]), List.foldl_cons, List.foldl_cons, ih]
theorem fold_deep (addr : Int) (l : List Rt) (h : ∀ r ∈ l, 0 ≤ r.hop ∧ 0 ≤ r.bits) (s : Int × Int) (hs : s = (-1, -1) ∨ 0 ≤ s.2) : l.foldl (hopStep addr) s = (-1, -1) ∨ 0 ≤ (l.foldl (hopStep addr) s).2 := by
  induction l generalizing s with
  | nil => exact hs
  | cons r l ih =>
    rw [List.foldl_cons]
    refine ih (fun x hx => h x (List.mem_cons_of_mem _ hx)) _ ?_
    unfold hopStep
    split
    · exact .inr (h r List.mem_cons_self).1
    · exact hs
theorem fold_pos (addr : Int) (l : List Rt) (h : ∀ r ∈ l, 0 ≤ r.hop) (s : Int × Int) (hs : 0 ≤ s.2) : 0 ≤ (l.foldl (hopStep addr) s).2 := by
  induction l generalizing s with
  | nil => exact hs
  | cons r l ih =>
    rw [List.foldl_cons]
    refine ih (fun x hx => h x (List.mem_cons_of_mem _ hx)) _ ?_
    unfold hopStep
    split
    · exact h r List.mem_cons_self
    · exact hs
/-- Where all that fit are longer than what was found, nothing hangs on what was found. -/
theorem fold_over (addr : Int) (l : List Rt) (s : Int × Int) (h : ∀ r ∈ l, 0 ≤ r.hop ∧ s.1 < r.bits ∧ 0 ≤ r.bits) (hf : ∀ r ∈ l, fitB r.net r.bits addr = true) :
    (l.foldl (hopStep addr) s).2 = if (l.foldl (hopStep addr) (-1, -1)).2 = -1 then s.2 else (l.foldl (hopStep addr) (-1, -1)).2 := by
  cases l with
  | nil => simp
  | cons r l =>
    obtain ⟨h1, h2, h3⟩ := h r List.mem_cons_self
    have e1 : hopStep addr s r = (r.bits, r.hop) := by unfold hopStep; rw [if_pos ⟨h2, hf r List.mem_cons_self⟩]
    have e2 : hopStep addr (-1, -1) r = (r.bits, r.hop) := by unfold hopStep; rw [if_pos ⟨by show (-1 : Int) < _; omega, hf r List.mem_cons_self⟩]
    rw [List.foldl_cons, List.foldl_cons, e1, e2]
    have := fold_pos addr l (fun x hx => (h x (List.mem_cons_of_mem _ hx)).1) (r.bits, r.hop) h1
    rw [if_neg (by omega)]

/-- The bit at a depth. -/
def bitV (n : Int) (d : Nat) : Int := n / 2 ^ (31 - d) % 2
theorem bitV_in (n : Int) (d : Nat) : bitV n d = 0 ∨ bitV n d = 1 := by unfold bitV; omega
theorem pow_half {d : Nat} (hd : d ≤ 31) : (2 : Int) ^ (32 - d) = 2 ^ (31 - d) * 2 := by
  rw [show 32 - d = 31 - d + 1 by omega, Int.pow_succ]
theorem bit_split {n p : Int} {d : Nat} (hd : d ≤ 31) (h : n / 2 ^ (32 - d) = p) : n / 2 ^ (31 - d) = 2 * p + bitV n d := by
  have e : n / 2 ^ (32 - d) = n / 2 ^ (31 - d) / 2 := by
    rw [pow_half hd, Int.ediv_ediv_of_nonneg (Int.le_of_lt (pow_pos' _))]
  rw [e] at h
  unfold bitV
  omega

/-- Right routes in order whose first d bits are those of p. -/
structure TrieOk (l : List Rt) (d : Nat) (p : Int) : Prop where
  each : ∀ r ∈ l, r.ok = true ∧ (d : Int) ≤ r.bits ∧ r.net / 2 ^ (32 - d) = p
  sorted : l.Pairwise fun a b => a.lt b = true

theorem ok_split {r : Rt} (h : r.ok = true) : (0 ≤ r.bits ∧ r.bits ≤ 32) ∧ (0 ≤ r.net ∧ r.net ≤ 4294967295) ∧ r.net % 2 ^ (32 - r.bits).toNat = 0 ∧ (0 ≤ r.hop ∧ r.hop ≤ 99) := by
  unfold Rt.ok netB at h
  simp only [Bool.and_eq_true, decide_eq_true_eq, inB_true] at h
  obtain ⟨⟨h1, h2, h3⟩, h4⟩ := h
  exact ⟨h1, h2, h3, h4⟩
theorem lt_iff {a b : Rt} : a.lt b = true ↔ a.net < b.net ∨ a.net = b.net ∧ a.bits < b.bits := by unfold Rt.lt; rw [decide_eq_true_iff]
theorem net_of {r : Rt} {d : Nat} {p : Int} (hd : d ≤ 32) (h : r.ok = true) (hb : r.bits = d) (hp : r.net / 2 ^ (32 - d) = p) : r.net = p * 2 ^ (32 - d) := by
  obtain ⟨_, _, h3, _⟩ := ok_split h
  rw [hb, show (32 - (d : Int)).toNat = 32 - d by omega] at h3
  have := Int.mul_ediv_add_emod r.net (2 ^ (32 - d))
  rw [h3, hp, Int.mul_comm] at this
  omega
theorem net_ge {r : Rt} {d : Nat} {p : Int} (hp : r.net / 2 ^ (32 - d) = p) : p * 2 ^ (32 - d) ≤ r.net := by
  rw [← hp]; exact Int.ediv_mul_le _ (by have := pow_pos' (32 - d); omega)

theorem TrieOk.nil (d : Nat) (p : Int) : TrieOk [] d p := ⟨by simp, .nil⟩
/-- Behind the first one all are longer. -/
theorem TrieOk.rest {x : Rt} {t : List Rt} {d : Nat} {p : Int} (hd : d ≤ 32) (h : TrieOk (x :: t) d p) : (x.bits = d → ∀ r ∈ t, (d : Int) + 1 ≤ r.bits) ∧ (x.bits ≠ d → ∀ r ∈ x :: t, (d : Int) + 1 ≤ r.bits) := by
  obtain ⟨hx, hlt⟩ := List.pairwise_cons.1 h.sorted
  have hex := h.each x List.mem_cons_self
  constructor
  · intro hb r hr
    have her := h.each r (List.mem_cons_of_mem _ hr)
    apply Classical.byContradiction
    intro hn
    have hrb : r.bits = d := by omega
    have e1 := net_of hd hex.1 hb hex.2.2
    have e2 := net_of hd her.1 hrb her.2.2
    have := lt_iff.1 (hx r hr)
    omega
  · intro hb r hr
    have her := h.each r hr
    apply Classical.byContradiction
    intro hn
    have hrb : r.bits = d := by omega
    have e2 := net_of hd her.1 hrb her.2.2
    have e1 := net_ge hex.2.2
    rcases List.mem_cons.1 hr with rfl | hr'
    · exact hb hrb
    · have := lt_iff.1 (hx r hr')
      omega
theorem TrieOk.two {l : List Rt} {d : Nat} {p : Int} (hd : d ≤ 32) (h : TrieOk l d p) (h2 : 2 ≤ l.length) : d ≤ 31 := by
  match l, h2 with
  | x :: y :: t, _ =>
    have hr := h.rest hd
    have hy := (ok_split (h.each y (by simp)).1).1
    by_cases hb : x.bits = d
    · have := hr.1 hb y (by simp); omega
    · have := hr.2 hb y (by simp); omega

/-- The two halves. -/
theorem TrieOk.halves {l : List Rt} {d : Nat} {p : Int} (hd : d ≤ 31) (h : TrieOk l d p) (hdeep : ∀ r ∈ l, (d : Int) + 1 ≤ r.bits) (k : Nat) (h0 : ∀ i, i < k → bitV (rtAt l i).net d = 0) (h1 : k < l.length → bitV (rtAt l k).net d = 1) :
    TrieOk (l.take k) (d + 1) (2 * p) ∧ TrieOk (l.drop k) (d + 1) (2 * p + 1) := by
  have q : ∀ r ∈ l, r.net / 2 ^ (32 - (d + 1)) = 2 * p + bitV r.net d := by
    intro r hr
    have := bit_split hd (h.each r hr).2.2
    rwa [show 31 - d = 32 - (d + 1) by omega] at this
  constructor
  · refine ⟨fun r hr => ?_, h.sorted.sublist (List.take_sublist _ _)⟩
    have hm := List.mem_of_mem_take hr
    refine ⟨(h.each r hm).1, by have := hdeep r hm; omega, ?_⟩
    rw [q r hm]
    obtain ⟨i, hi, rfl⟩ := List.mem_iff_getElem.1 hr
    have hik : i < k := by simp at hi; omega
    have hil : i < l.length := by simp at hi; omega
    have := h0 i hik
    rw [rtAt_lt hil] at this
    rw [List.getElem_take, this]
    omega
  · refine ⟨fun r hr => ?_, h.sorted.sublist (List.drop_sublist _ _)⟩
    have hm := List.mem_of_mem_drop hr
    refine ⟨(h.each r hm).1, by have := hdeep r hm; omega, ?_⟩
    rw [q r hm]
    obtain ⟨i, hi, rfl⟩ := List.mem_iff_getElem.1 hr
    have hkl : k + i < l.length := by simp at hi; omega
    have hk : k < l.length := by omega
    have hb := h1 hk
    rw [rtAt_lt hk] at hb
    rw [List.getElem_drop]
    have hle : l[k].net ≤ l[k + i].net := by
      by_cases hi0 : i = 0
      · subst hi0; exact Int.le_refl _
      · have := lt_iff.1 (List.pairwise_iff_getElem.1 h.sorted k (k + i) hk hkl (by omega))
        omega
    have e1 := q l[k] (List.getElem_mem _)
    have e2 := q l[k + i] (List.getElem_mem _)
    have := Int.ediv_le_ediv (pow_pos' (32 - (d + 1))) hle
    have := bitV_in l[k + i].net d
    omega

theorem fit_iff {r : Rt} {addr : Int} (h : r.ok = true) : fitB r.net r.bits addr = true ↔ r.net / 2 ^ (32 - r.bits).toNat = addr / 2 ^ (32 - r.bits).toNat := by
  unfold fitB
  rw [decide_eq_true_iff, fit_two (ok_split h).2.2.1]
/-- What fits has its bit. -/
theorem fit_bit {r : Rt} {addr : Int} {d : Nat} (hd : d ≤ 31) (h : r.ok = true) (hb : (d : Int) + 1 ≤ r.bits) (hf : fitB r.net r.bits addr = true) : bitV r.net d = bitV addr d := by
  have e := (fit_iff h).1 hf
  have hk := (ok_split h).1
  obtain ⟨s, hs⟩ : ∃ s, (32 - r.bits).toNat = s := ⟨_, rfl⟩
  rw [hs] at e
  obtain ⟨t, ht⟩ : ∃ t, 31 - d = s + t := ⟨31 - d - s, by omega⟩
  have f : ∀ n : Int, n / 2 ^ (31 - d) = n / 2 ^ s / 2 ^ t := by
    intro n
    rw [ht, Int.pow_add, Int.ediv_ediv_of_nonneg (Int.le_of_lt (pow_pos' _))]
  unfold bitV
  rw [f, f, e]
theorem fit_own {r : Rt} {addr p : Int} {d : Nat} (hd : d ≤ 32) (h : r.ok = true) (hb : r.bits = d) (hp : r.net / 2 ^ (32 - d) = p) (ha : addr / 2 ^ (32 - d) = p) : fitB r.net r.bits addr = true := by
  rw [fit_iff h, hb, show (32 - (d : Int)).toNat = 32 - d by omega, hp, ha]

theorem hop_half {l : List Rt} {d : Nat} (hd : d ≤ 31) (hok : ∀ r ∈ l, r.ok = true) (hdeep : ∀ r ∈ l, (d : Int) + 1 ≤ r.bits) (addr : Int) (hbit : ∀ r ∈ l, bitV r.net d ≠ bitV addr d) : (l.filter fun r => fitB r.net r.bits addr) = [] := by
  rw [List.filter_eq_nil_iff]
  intro r hr hf
  exact hbit r hr (fit_bit hd (hok r hr) (hdeep r hr) hf)

/-- Found in the half that the address belongs to, or what ends here. -/
theorem hop_halves {l : List Rt} {d : Nat} {p : Int} (hd : d ≤ 31) (h : TrieOk l d p) (hdeep : ∀ r ∈ l, (d : Int) + 1 ≤ r.bits) (k : Nat) (h0 : ∀ i, i < k → bitV (rtAt l i).net d = 0) (h1 : k < l.length → bitV (rtAt l k).net d = 1) (addr : Int) :
    hopL l addr = if bitV addr d = 0 then hopL (l.take k) addr else hopL (l.drop k) addr := by
  obtain ⟨hz, ho⟩ := h.halves hd hdeep k h0 h1
  have hl : l = l.take k ++ l.drop k := (List.take_append_drop k l).symm
  have bz : ∀ r ∈ l.take k, bitV r.net d = 0 := by
    intro r hr
    have e := (hz.each r hr).2.2
    have := bit_split hd (h.each r (List.mem_of_mem_take hr)).2.2
    rw [show 31 - d = 32 - (d + 1) by omega] at this
    omega
  have bo : ∀ r ∈ l.drop k, bitV r.net d = 1 := by
    intro r hr
    have e := (ho.each r hr).2.2
    have := bit_split hd (h.each r (List.mem_of_mem_drop hr)).2.2
    rw [show 31 - d = 32 - (d + 1) by omega] at this
    omega
  have key : (l.filter fun r => fitB r.net r.bits addr) = (l.take k).filter (fun r => fitB r.net r.bits addr) ++ (l.drop k).filter (fun r => fitB r.net r.bits addr) := by
    rw [← List.filter_append, ← hl]
  unfold hopL
  rw [fold_filter, key]
  by_cases hb : bitV addr d = 0
  · rw [if_pos hb, hop_half (l := l.drop k) hd (fun r hr => (ho.each r hr).1) (fun r hr => hdeep r (List.mem_of_mem_drop hr)) addr (fun r hr => by rw [bo r hr]; omega), List.append_nil, ← fold_filter]
  · rw [if_neg hb, hop_half (l := l.take k) hd (fun r hr => (hz.each r hr).1) (fun r hr => hdeep r (List.mem_of_mem_take hr)) addr (fun r hr => by rw [bz r hr]; omega), List.nil_append, ← fold_filter]
theorem hop_cons {x : Rt} {t : List Rt} {d : Nat} {p : Int} (hd : d ≤ 31) (h : TrieOk (x :: t) d p) (hb : x.bits = d) (addr : Int) (ha : addr / 2 ^ (32 - d) = p) :
    hopL (x :: t) addr = if hopL t addr = -1 then x.hop else hopL t addr := by
  have hex := h.each x List.mem_cons_self
  have hr := (h.rest (by omega)).1 hb
  have hf := fit_own (by omega) hex.1 hb hex.2.2 ha
  unfold hopL
  rw [List.foldl_cons]
  have e : hopStep addr (-1, -1) x = (x.bits, x.hop) := by
    unfold hopStep
    rw [if_pos ⟨by show (-1 : Int) < _; omega, hf⟩]
  rw [e, fold_filter addr t (x.bits, x.hop), fold_filter addr t (-1, -1)]
  refine fold_over addr _ _ (fun r hr' => ?_) (fun r hr' => by simpa using (List.mem_filter.1 hr').2)
  have hm := (List.mem_filter.1 hr').1
  have := hr r hm
  exact ⟨(ok_split (h.each r (List.mem_cons_of_mem _ hm)).1).2.2.2.1, by show x.bits < _; omega, by omega⟩
theorem hop_one (r : Rt) (addr : Int) (h : r.ok = true) : hopL [r] addr = if fitB r.net r.bits addr = true then r.hop else -1 := by
  have := (ok_split h).1
  unfold hopL hopStep
  simp only [List.foldl_cons, List.foldl_nil]
  cases fitB r.net r.bits addr
  · simp
  · simp [show (-1 : Int) < r.bits by omega]

theorem pairwise_of {l : List Rt} (h : goodTo l l.length = true) : l.Pairwise fun a b => a.lt b = true := by
  rw [List.pairwise_iff_getElem]
  unfold goodTo at h
  rw [List.all_eq_true] at h
  have adj : ∀ i, (hi : i + 1 < l.length) → l[i].lt l[i + 1] = true := by
    intro i hi
    have := h (i + 1) (List.mem_range.2 hi)
    unfold good at this
    rw [Bool.and_eq_true] at this
    have h2 := this.2
    simp only [Nat.add_sub_cancel] at h2
    rw [rtAt_lt (by omega), rtAt_lt hi] at h2
    simpa using h2
  intro i j hi hj hij
  induction j with
  | zero => omega
  | succ j ih =>
    have a := lt_iff.1 (adj j hj)
    by_cases e : i = j
    · subst e; exact lt_iff.2 a
    · have b := lt_iff.1 (ih (by omega) (by omega))
      exact lt_iff.2 (by omega)
theorem trieOk_of {l : List Rt} (h : rtsOk l = true) : TrieOk l 0 0 := by
  unfold rtsOk at h
  rw [Bool.and_eq_true] at h
  refine ⟨fun r hr => ?_, pairwise_of h.2⟩
  obtain ⟨i, hi, rfl⟩ := List.mem_iff_getElem.1 hr
  have h2 := h.2
  unfold goodTo at h2
  rw [List.all_eq_true] at h2
  have := h2 i (List.mem_range.2 hi)
  unfold good at this
  rw [Bool.and_eq_true, rtAt_lt hi] at this
  have hs := ok_split this.1
  exact ⟨this.1, by omega, by have : (2 : Int) ^ (32 - 0) = 4294967296 := by decide
                              rw [this]; omega⟩
end Go.Proofs.Ytilnjmpnhadidaa

/-
  Parts of lists of routes. By the verifier.
-/
namespace Go.Proofs.Ytilnjmpnhadidaa
open Go.RowKit

theorem rts_take {w : World} {a : Option Addr} {l : List Rt} (h : RtsAt w a l) (k : Nat) : RtsAt w a (l.take k) := by
  intro i hi
  have hi' : i < l.length := by simp at hi; omega
  have hk : i < k := by simp at hi; omega
  obtain ⟨b, off, e, hb, c⟩ := h i hi'
  have er : rtAt (l.take k) i = rtAt l i := by simp [rtAt, hk]
  rw [er]
  exact ⟨b, off, e, hb, c⟩
theorem rts_drop {w : World} {b off : Nat} {l : List Rt} (h : RtsAt w (some ⟨b, off, none⟩) l) (k : Nat) : RtsAt w (some ⟨b, off + k * 3, none⟩) (l.drop k) := by
  intro i hi
  have hi' : k + i < l.length := by simp at hi; omega
  obtain ⟨b', off', e, hb, c⟩ := h (k + i) hi'
  cases e
  have er : rtAt (l.drop k) i = rtAt l (k + i) := by simp [rtAt]
  rw [er]
  refine ⟨b, off + k * 3, rfl, hb, ?_⟩
  rw [show off + k * 3 + i * 3 = off + (k + i) * 3 by omega]
  exact c
end Go.Proofs.Ytilnjmpnhadidaa

/-
  What Take answers; of the walk of the model's Take. By the verifier.
-/
namespace Go.Proofs.Ytilnjmpnhadidaa
open Go.RowKit

/-- What is left, and whether it was there. -/
def takeL (l : List Rt) (net bits : Int) : List Rt := if rtsOk l = true then (if atN l net bits < l.length then l.take (atN l net bits) ++ l.drop (atN l net bits + 1) else l) else []
def takeB (l : List Rt) (net bits : Int) : Bool := rtsOk l && decide (atN l net bits < l.length)

def tkPr (base : Nat) (W : World) (S : Value) (l : List Rt) (k n : Nat) : Nat → World → Value → Prop := fun i w v =>
  if i = 0 then RRow base w v [] else if i = 1 ∨ i = 5 then v = S else if i = 2 ∨ i = 6 then v = .int .i64 (k : Int)
  else if i = 3 then ∃ a c, v = .slice a k c ∧ a ≠ none ∧ RtsAt W a (l.take k) else if i = 4 then RRow base w v (l.take k) else if i = 7 then v = .int .i64 ((k : Int) + 1)
  else if i = 8 then ∃ a c, v = .slice a (n - (k + 1)) c ∧ a ≠ none ∧ RtsAt W a (l.drop (k + 1)) else if i = 9 ∨ i = 10 then RRow base w v (l.take k ++ l.drop (k + 1)) else v = .bool true
def tkR (base : Nat) : Nat → World → World → Prop := fun i w w' => if i = 4 ∨ i = 9 then Below base w w' else (w' = w ∨ ∃ o, w' = w.alloc o)
def tkUse : Nat → Nat := fun j => if j = 0 then 4 else if j = 4 then 9 else 12

theorem no_false {p : Prop} {b : Bool} (h1 : b = false) (h2 : b = true) : p := by rw [h1] at h2; cases h2
end Go.Proofs.Ytilnjmpnhadidaa

/-
  Deals as plain data: when one is right, how many wait, who came, who went, ranks. By the verifier.
-/
import Derived.Test.YtojmghnbekneiaaDlPlain
namespace Go.Proofs.Ytojmghnbekneiaa
open Go.RowKit

/-- The sum of a list. -/
def tot : List Int → Int
  | [] => 0
  | x :: r => x + tot r
theorem tot_append (a b : List Int) : tot (a ++ b) = tot a + tot b := by
  induction a with
  | nil => simp [tot]
  | cons x r ih => simp only [List.cons_append, tot, ih]; omega
theorem tot_take (l : List Int) (k : Nat) (h : k < l.length) : tot (l.take (k + 1)) = tot (l.take k) + l[k]?.getD 0 := by
  rw [List.take_succ_eq_append_getElem h, tot_append, List.getElem?_eq_getElem h]
  simp [tot]
theorem tot_in {l : List Int} (h : ∀ x ∈ l, 0 ≤ x ∧ x ≤ 1000) : 0 ≤ tot l ∧ tot l ≤ 1000 * (l.length : Int) := by
  induction l with
  | nil => simp [tot]
  | cons x r ih =>
    have h1 := ih fun y hy => h y (List.mem_cons_of_mem _ hy)
    have h2 := h x List.mem_cons_self
    simp only [tot, List.length_cons]
    push_cast
    omega
theorem tot_nonneg {l : List Int} (h : ∀ x ∈ l, 0 ≤ x) : 0 ≤ tot l := by
  induction l with
  | nil => simp [tot]
  | cons y s ihs =>
    have a1 := ihs fun z hz => h z (List.mem_cons_of_mem _ hz)
    have a2 := h y List.mem_cons_self
    simp only [tot]
    omega
theorem tot_zero {l : List Int} (h : ∀ x ∈ l, 0 ≤ x) : tot l = 0 ↔ ∀ x ∈ l, x = 0 := by
  induction l with
  | nil => simp [tot]
  | cons x r ih =>
    have h1 := ih fun y hy => h y (List.mem_cons_of_mem _ hy)
    have h2 := h x List.mem_cons_self
    have h3 : 0 ≤ tot r := tot_nonneg fun y hy => h y (List.mem_cons_of_mem _ hy)
    simp only [tot, List.mem_cons, forall_eq_or_imp]
    constructor
    · intro e
      exact ⟨by omega, h1.1 (by omega)⟩
    · rintro ⟨e1, e2⟩
      have := h1.2 e2
      omega
theorem tot_set (l : List Int) (k : Nat) (h : k < l.length) (z : Int) : tot (l.set k z) = tot l - l[k]?.getD 0 + z := by
  induction l generalizing k with
  | nil => simp at h
  | cons x r ih =>
    cases k with
    | zero => simp [tot]; omega
    | succ k =>
      have := ih k (by simpa using h)
      simp only [List.set_cons_succ, tot, this, List.getElem?_cons_succ]
      omega

/-- How many wait. -/
def Hs.sum (h : Hs) : Int := tot h.flows
def Hs.ok (h : Hs) : Bool := inB 1 8 (h.flows.length : Int) && (inB 0 ((h.flows.length : Int) - 1) h.turn && h.flows.all (inB 0 1000))
def Dl.ok (d : Dl) : Bool := inB 1 8 (d.hosts.length : Int) && (inB 0 ((d.hosts.length : Int) - 1) d.turn && d.hosts.all Hs.ok)
theorem Hs.ok_iff {h : Hs} : h.ok = true ↔ (1 ≤ h.flows.length ∧ h.flows.length ≤ 8) ∧ (0 ≤ h.turn ∧ h.turn < (h.flows.length : Int)) ∧ ∀ x ∈ h.flows, 0 ≤ x ∧ x ≤ 1000 := by
  unfold Hs.ok
  simp only [Bool.and_eq_true, inB_true, List.all_eq_true]
  constructor
  · rintro ⟨h1, h2, h3⟩
    exact ⟨by omega, by omega, h3⟩
  · rintro ⟨h1, h2, h3⟩
    exact ⟨by omega, by omega, h3⟩
theorem Dl.ok_iff {d : Dl} : d.ok = true ↔ (1 ≤ d.hosts.length ∧ d.hosts.length ≤ 8) ∧ (0 ≤ d.turn ∧ d.turn < (d.hosts.length : Int)) ∧ ∀ h ∈ d.hosts, h.ok = true := by
  unfold Dl.ok
  simp only [Bool.and_eq_true, inB_true, List.all_eq_true]
  constructor
  · rintro ⟨h1, h2, h3⟩
    exact ⟨by omega, by omega, h3⟩
  · rintro ⟨h1, h2, h3⟩
    exact ⟨by omega, by omega, h3⟩
theorem Dl.ok_at {d : Dl} (h : d.ok = true) {i : Nat} (hi : i < d.hosts.length) : (hsAt d.hosts i).ok = true := by
  rw [hsAt_lt hi]
  exact (Dl.ok_iff.1 h).2.2 _ (List.getElem_mem hi)
theorem Hs.sum_in {h : Hs} (hk : h.ok = true) : 0 ≤ h.sum ∧ h.sum ≤ 8000 := by
  have h1 := Hs.ok_iff.1 hk
  have h2 := tot_in h1.2.2
  unfold Hs.sum
  omega
def Dl.waits (d : Dl) : Int := tot (d.hosts.map Hs.sum)
def Dl.waiting (d : Dl) : Int := if d.ok = true then d.waits else -1
/-- A step is found, from s on, round and round; n where there is none. -/
def seek (p : Nat → Bool) (s n : Nat) : Nat := (List.range n).findIdx fun k => p ((s + k) % n)
/-- How many of the first k, from s on. -/
def cnt (p : Nat → Bool) (s n : Nat) : Nat → Nat
  | 0 => 0
  | k + 1 => cnt p s n k + if p ((s + k) % n) = true then 1 else 0
theorem seek_le (p : Nat → Bool) (s n : Nat) : seek p s n ≤ n := by
  have := List.findIdx_le_length (p := fun k => p ((s + k) % n)) (xs := List.range n)
  simpa [seek] using this
theorem seek_not {p : Nat → Bool} {s n k : Nat} (h : k < seek p s n) : p ((s + k) % n) = false := by
  have hk : k < n := Nat.lt_of_lt_of_le h (seek_le p s n)
  have := List.not_of_lt_findIdx (p := fun k => p ((s + k) % n)) (xs := List.range n) (i := k) h
  simpa using this
theorem seek_is {p : Nat → Bool} {s n : Nat} (h : seek p s n < n) : p ((s + seek p s n) % n) = true := by
  have := List.findIdx_getElem (p := fun k => p ((s + k) % n)) (xs := List.range n) (w := by simpa [seek] using h)
  simpa [seek] using this
theorem seek_eq {p : Nat → Bool} {s n k : Nat} (hk : k < n) (h1 : p ((s + k) % n) = true) (h2 : ∀ j, j < k → p ((s + j) % n) = false) : seek p s n = k := by
  have a1 : ¬ seek p s n < k := fun h => by
    have := h2 _ h
    have g := seek_is (p := p) (s := s) (n := n) (by omega)
    rw [this] at g
    cases g
  have a2 : ¬ k < seek p s n := fun h => by
    rw [seek_not h] at h1
    cases h1
  omega
theorem seek_none {p : Nat → Bool} {s n : Nat} (h : ∀ j, j < n → p ((s + j) % n) = false) : seek p s n = n := by
  have h1 := seek_le p s n
  apply Classical.byContradiction
  intro hn
  have h2 : seek p s n < n := by omega
  have h3 := seek_is h2
  rw [h _ h2] at h3
  cases h3
def Hs.some (h : Hs) : Bool := decide (h.sum ≠ 0)
/-- How far the first one with any is; n where there is none. -/
def Dl.far (d : Dl) : Nat := seek (fun i => (hsAt d.hosts i).some) d.turn.toNat d.hosts.length
def Dl.at' (d : Dl) : Nat := (d.turn.toNat + d.far) % d.hosts.length
def flAt (l : List Int) (j : Nat) : Int := l[j]?.getD 0
def Hs.far (h : Hs) : Nat := seek (fun j => decide (flAt h.flows j ≠ 0)) h.turn.toNat h.flows.length
def Hs.at' (h : Hs) : Nat := (h.turn.toNat + h.far) % h.flows.length
/-- One went of it. -/
def Hs.less (h : Hs) : Hs := ⟨((h.at' + 1) % h.flows.length : Nat), h.flows.set h.at' (flAt h.flows h.at' - 1)⟩
def Dl.has (d : Dl) : Bool := decide (d.far < d.hosts.length)
def Dl.went (d : Dl) : Dl := if d.ok = true then (if d.has = true then ⟨((d.at' + 1) % d.hosts.length : Nat), d.hosts.set d.at' (hsAt d.hosts d.at').less⟩ else d) else ⟨0, []⟩
def Dl.wentH (d : Dl) : Int := if d.ok = true ∧ d.has = true then (d.at' : Nat) else -1
def Dl.wentF (d : Dl) : Int := if d.ok = true ∧ d.has = true then ((hsAt d.hosts d.at').at' : Nat) else -1
def Dl.mayCome (d : Dl) (host flow : Int) : Bool := decide ((0 ≤ host ∧ host < (d.hosts.length : Int)) ∧ (0 ≤ flow ∧ flow < ((hsAt d.hosts host.toNat).flows.length : Int)) ∧ flAt (hsAt d.hosts host.toNat).flows flow.toNat ≠ 1000)
/-- One more of it. -/
def Hs.more (h : Hs) (j : Nat) : Hs := ⟨h.turn, h.flows.set j (flAt h.flows j + 1)⟩
def Dl.came (d : Dl) (host flow : Int) : Dl := if d.ok = true then (if d.mayCome host flow = true then ⟨d.turn, d.hosts.set host.toNat ((hsAt d.hosts host.toNat).more flow.toNat)⟩ else d) else ⟨0, []⟩
def Dl.cameB (d : Dl) (host flow : Int) : Bool := d.ok && d.mayCome host flow
/-- How far a host is from the one whose turn it is. -/
def Dl.gap (d : Dl) (host : Nat) : Nat := (host + d.hosts.length - d.turn.toNat) % d.hosts.length
def Dl.isRanked (d : Dl) (host : Int) : Bool := d.ok && (inB 0 ((d.hosts.length : Int) - 1) host && (hsAt d.hosts host.toNat).some)
def Dl.rank (d : Dl) (host : Int) : Int := if d.isRanked host = true then (cnt (fun i => (hsAt d.hosts i).some) d.turn.toNat d.hosts.length (d.gap host.toNat) : Nat) else -1
theorem flAt_mem {l : List Int} {j : Nat} (h : j < l.length) : flAt l j ∈ l := by
  unfold flAt
  rw [List.getElem?_eq_getElem h]
  exact List.getElem_mem h
theorem Hs.far_lt {h : Hs} (hk : h.ok = true) (hs : h.some = true) : h.far < h.flows.length := by
  have h1 := Hs.ok_iff.1 hk
  have hn : 0 < h.flows.length := by omega
  apply Classical.byContradiction
  intro hf
  have e : h.far = h.flows.length := by
    have := seek_le (fun j => decide (flAt h.flows j ≠ 0)) h.turn.toNat h.flows.length
    unfold Hs.far at hf ⊢
    omega
  have z : ∀ x ∈ h.flows, x = 0 := by
    intro x hx
    obtain ⟨i, hi, rfl⟩ := List.mem_iff_getElem.1 hx
    have ht : h.turn.toNat < h.flows.length := by omega
    have hk' : (i + h.flows.length - h.turn.toNat) % h.flows.length < h.far := by rw [e]; exact Nat.mod_lt _ hn
    have := seek_not hk'
    have e2 : (h.turn.toNat + (i + h.flows.length - h.turn.toNat) % h.flows.length) % h.flows.length = i := by
      rw [Nat.add_mod_mod, show h.turn.toNat + (i + h.flows.length - h.turn.toNat) = i + h.flows.length by omega, Nat.add_mod_right, Nat.mod_eq_of_lt hi]
    rw [e2] at this
    simpa [flAt, List.getElem?_eq_getElem hi] using this
  have := (tot_zero fun x hx => (h1.2.2 x hx).1).2 z
  unfold Hs.some Hs.sum at hs
  simp [this] at hs
theorem Hs.at_lt {h : Hs} (hk : h.ok = true) : h.at' < h.flows.length := Nat.mod_lt _ (by have := Hs.ok_iff.1 hk; omega)
theorem Hs.at_pos {h : Hs} (hk : h.ok = true) (hs : h.some = true) : 0 < flAt h.flows h.at' := by
  have h1 := seek_is (Hs.far_lt hk hs)
  have h2 := (Hs.ok_iff.1 hk).2.2 _ (flAt_mem (Hs.at_lt hk))
  have h3 : flAt h.flows h.at' ≠ 0 := by simpa [Hs.at', Hs.far] using h1
  omega
theorem Dl.at_lt {d : Dl} (hk : d.ok = true) : d.at' < d.hosts.length := Nat.mod_lt _ (by have := Dl.ok_iff.1 hk; omega)
theorem Dl.at_some {d : Dl} (hh : d.has = true) : (hsAt d.hosts d.at').some = true := by
  unfold Dl.has Dl.far at hh
  exact seek_is (p := fun i => (hsAt d.hosts i).some) (of_decide_eq_true hh)
theorem mem_set {α : Type} {l : List α} {k : Nat} {x y : α} (h : y ∈ l.set k x) : y ∈ l ∨ y = x := List.mem_or_eq_of_mem_set h
theorem Hs.less_ok {h : Hs} (hk : h.ok = true) (hs : h.some = true) : h.less.ok = true := by
  have h1 := Hs.ok_iff.1 hk
  have h2 := Hs.at_pos hk hs
  have h3 := (h1.2.2 _ (flAt_mem (Hs.at_lt hk))).2
  have h4 : (h.at' + 1) % h.flows.length < h.flows.length := Nat.mod_lt _ (by omega)
  rw [Hs.ok_iff]
  unfold Hs.less
  simp only [List.length_set]
  refine ⟨h1.1, by omega, fun x hx => ?_⟩
  rcases mem_set hx with hx | rfl
  · exact h1.2.2 x hx
  · omega
theorem Dl.went_ok {d : Dl} (hk : d.ok = true) : d.went.ok = true := by
  unfold Dl.went
  rw [if_pos hk]
  by_cases hh : d.has = true
  · rw [if_pos hh]
    have h1 := Dl.ok_iff.1 hk
    have h2 : (d.at' + 1) % d.hosts.length < d.hosts.length := Nat.mod_lt _ (by omega)
    rw [Dl.ok_iff]
    simp only [List.length_set]
    refine ⟨h1.1, by omega, fun x hx => ?_⟩
    rcases mem_set hx with hx | rfl
    · exact h1.2.2 x hx
    · exact Hs.less_ok (Dl.ok_at hk (Dl.at_lt hk)) (Dl.at_some hh)
  · rw [if_neg hh]; exact hk
end Go.Proofs.Ytojmghnbekneiaa

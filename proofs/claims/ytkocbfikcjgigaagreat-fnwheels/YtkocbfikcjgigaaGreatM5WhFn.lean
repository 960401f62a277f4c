import Derived.Test.YtkocbfikcjgigaaGreatM3DzPlain
import Derived.Test.YtkocbfikcjgigaaGreatM0DuOrd
import Derived.Test.YtkocbfikcjgigaaGreatM1DuFn
/-
  A record of a number and a list (Wheel) as plain data: cells that hold it, memory of the call's own. By the verifier, by program.
-/
namespace Go.Proofs.YtkocbfikcjgigaaGreat
open Go.RowKit

structure Wh where
  step : Int
  slots : List (List Du)
/-- As a value. -/
def Wh.val (r : Wh) (a : Option Addr) (c : Nat) : Value := .agg #[.int .i64 r.step, .slice a r.slots.length c]
/-- A value that holds it. -/
def WhAt (w : World) (v : Value) (r : Wh) : Prop := ∃ a c, v = r.val a c ∧ DzAt w a r.slots
/-- A value that holds it in memory from b up to t. -/
def WhIn (b t : Nat) (w : World) (v : Value) (r : Wh) : Prop := ∃ a c, v = r.val a c ∧ DzIn b t w (.slice a r.slots.length c) r.slots
/-- How much it is. -/
def Wh.big (r : Wh) : Nat := r.slots.length + dzSum r.slots r.slots.length
section
variable {b t : Nat} {w w' : World} {v : Value} {r : Wh}
theorem WhIn.at (h : WhIn b t w v r) : WhAt w v r := by
  obtain ⟨a, c, e, h⟩ := h
  exact ⟨a, c, e, h.at⟩
theorem WhAt.below (h : WhAt w v r) (g : Below w.heap.size w w') : WhAt w' v r := by
  obtain ⟨a, c, e, h⟩ := h
  exact ⟨a, c, e, h.below g⟩
theorem WhIn.below (h : WhIn b t w v r) (g : Below w.heap.size w w') : WhIn b t w' v r := by
  obtain ⟨a, c, e, h⟩ := h
  exact ⟨a, c, e, h.below g⟩
theorem WhIn.keep (h : WhIn b t w v r) (hs : w.heap.size ≤ w'.heap.size) (hk : ∀ k, b ≤ k → k < t → w'.heap[k]? = w.heap[k]?) : WhIn b t w' v r := by
  obtain ⟨a, c, e, h⟩ := h
  exact ⟨a, c, e, h.keep hs hk⟩
theorem WhIn.wide {b' t' : Nat} (h : WhIn b t w v r) (hb : b' ≤ b) (ht : t ≤ t') (hs : t' ≤ w.heap.size) : WhIn b' t' w v r := by
  obtain ⟨a, c, e, h⟩ := h
  exact ⟨a, c, e, h.wide hb ht hs⟩
end
theorem Wh.small {r : Wh} (h : r.big ≤ 1048576) : r.slots.length ≤ 1048576 ∧ dzSum r.slots r.slots.length ≤ 1048576 ∧ ∀ k, k < r.slots.length → (dzAt r.slots k).length ≤ 1048576 := by
  unfold Wh.big at h
  refine ⟨by omega, by omega, fun k hk => ?_⟩
  have := dzSum_one hk
  omega
end Go.Proofs.YtkocbfikcjgigaaGreat

/-
  Dues in slots, rising: one way alone to lay them, one put in, the first of all taken. By the verifier.
-/
namespace Go.Proofs.YtkocbfikcjgigaaGreat
open Go.RowKit

/-- Rising. -/
abbrev Rise (l : List Du) : Prop := l.Pairwise Du.lt
theorem rise_adj {l : List Du} (h : ∀ k, 0 < k → k < l.length → (duAt l (k - 1)).lt (duAt l k)) : Rise l := by
  show List.Pairwise Du.lt l
  rw [List.pairwise_iff_getElem]
  intro i j hi hj hij
  have : ∀ n, i + 1 + n < l.length → (duAt l i).lt (duAt l (i + 1 + n)) := by
    intro n
    induction n with
    | zero => intro h2; exact h (i + 1) (by omega) h2
    | succ n ih => intro h2; exact Du.lt_trans (ih (by omega)) (by have := h (i + 1 + (n + 1)) (by omega) h2; exact this)
  have := this (j - i - 1) (by omega)
  rw [show i + 1 + (j - i - 1) = j by omega, duAt_lt hi, duAt_lt hj] at this
  exact this
theorem rise_of {l : List Du} (h : Rise l) {k : Nat} (h0 : 0 < k) (hk : k < l.length) : (duAt l (k - 1)).lt (duAt l k) := by
  rw [duAt_lt (by omega), duAt_lt hk]
  exact List.pairwise_iff_getElem.1 h (k - 1) k (by omega) hk (by omega)
theorem Rise.nodup {l : List Du} (h : Rise l) : l.Nodup := h.imp fun q => Du.lt_ne q
theorem rise_eq : ∀ {l m : List Du}, Rise l → Rise m → l.Perm m → l = m
  | [], m, _, _, hp => (List.nil_perm.1 hp).symm
  | x :: l, [], _, _, hp => absurd (List.perm_nil.1 hp) (by simp)
  | x :: l, y :: m, hl, hm, hp => by
    have hxy : x = y := by
      have h1 : x ∈ y :: m := hp.subset List.mem_cons_self
      have h2 : y ∈ x :: l := hp.symm.subset List.mem_cons_self
      rcases List.mem_cons.1 h1 with e | h1
      · exact e
      rcases List.mem_cons.1 h2 with e | h2
      · exact e.symm
      exact absurd ((List.pairwise_cons.1 hl).1 y h2) (Du.lt_asymm ((List.pairwise_cons.1 hm).1 x h1))
    subst hxy
    rw [rise_eq (List.pairwise_cons.1 hl).2 (List.pairwise_cons.1 hm).2 ((List.perm_cons x).1 hp)]
/-- How many are ahead of one. -/
def ahead : List Du → Du → Nat
  | [], _ => 0
  | x :: l, d => if x.lt d then ahead l d + 1 else 0
theorem ahead_le (l : List Du) (d : Du) : ahead l d ≤ l.length := by
  induction l with
  | nil => simp [ahead]
  | cons x l ih => unfold ahead; split <;> simp <;> omega
theorem ahead_lt {l : List Du} {d : Du} {k : Nat} (h : k < ahead l d) : (duAt l k).lt d := by
  induction l generalizing k with
  | nil => simp [ahead] at h
  | cons x l ih =>
    unfold ahead at h
    split at h
    · next hx =>
      cases k with
      | zero => simpa [duAt] using hx
      | succ k => have := ih (k := k) (by omega); simpa [duAt] using this
    · omega
theorem ahead_not {l : List Du} {d : Du} (h : ahead l d < l.length) : ¬ (duAt l (ahead l d)).lt d := by
  induction l with
  | nil => simp at h
  | cons x l ih =>
    unfold ahead at h ⊢
    split at h
    · next hx =>
      rw [if_pos hx]
      have := ih (by simpa using h)
      simpa [duAt] using this
    · next hx => rw [if_neg hx]; simpa [duAt] using hx
theorem ahead_eq {l : List Du} {d : Du} {k : Nat} (hk : k ≤ l.length) (h1 : ∀ j, j < k → (duAt l j).lt d) (h2 : k < l.length → ¬ (duAt l k).lt d) : ahead l d = k := by
  have a1 : ¬ ahead l d < k := fun h => ahead_not (by omega) (h1 _ h)
  have a2 : ¬ k < ahead l d := fun h => h2 (by have := ahead_le l d; omega) (ahead_lt h)
  omega
/-- One put where it belongs. -/
def ins (l : List Du) (d : Du) : List Du := l.take (ahead l d) ++ (d :: l.drop (ahead l d))
theorem ins_len (l : List Du) (d : Du) : (ins l d).length = l.length + 1 := by
  have := ahead_le l d
  simp [ins]
  omega
theorem ins_perm (l : List Du) (d : Du) : (ins l d).Perm (d :: l) := by
  have h : (l.take (ahead l d) ++ (d :: l.drop (ahead l d))).Perm (d :: (l.take (ahead l d) ++ l.drop (ahead l d))) := List.perm_middle
  rw [List.take_append_drop] at h
  exact h
theorem ins_rise {l : List Du} {d : Du} (h : Rise l) (hn : d ∉ l) : Rise (ins l d) := by
  have hle := ahead_le l d
  unfold ins
  rw [Rise, List.pairwise_append]
  have hb : ∀ x ∈ l.take (ahead l d), x.lt d := fun x hx => by
    obtain ⟨i, hi, rfl⟩ := List.mem_iff_getElem.1 hx
    rw [List.length_take] at hi
    have := ahead_lt (l := l) (d := d) (k := i) (by omega)
    rw [duAt_lt (by omega)] at this
    rw [List.getElem_take]
    exact this
  have ha : ∀ x ∈ l.drop (ahead l d), d.lt x := fun x hx => by
    have hlt : ahead l d < l.length := by
      apply Classical.byContradiction
      intro q
      rw [List.drop_of_length_le (by omega)] at hx
      cases hx
    have h1 : d.lt (duAt l (ahead l d)) := by
      apply Classical.byContradiction
      intro q
      have := Du.eq_of (ahead_not hlt) q
      exact hn (by rw [← this, duAt_lt hlt]; exact List.getElem_mem hlt)
    obtain ⟨i, hi, rfl⟩ := List.mem_iff_getElem.1 hx
    rw [List.length_drop] at hi
    rw [List.getElem_drop]
    by_cases e : i = 0
    · subst e
      rw [duAt_lt hlt] at h1
      simpa using h1
    · refine Du.lt_trans h1 ?_
      rw [duAt_lt hlt]
      exact List.pairwise_iff_getElem.1 h _ _ hlt (by omega) (by omega)
  refine ⟨h.sublist (List.take_sublist _ _), List.pairwise_cons.2 ⟨ha, h.sublist (List.drop_sublist _ _)⟩, fun x hx y hy => ?_⟩
  rcases List.mem_cons.1 hy with rfl | hy
  · exact hb x hx
  · exact Du.lt_trans (hb x hx) (ha y hy)

theorem dzAt_set {ls : List (List Du)} {i j : Nat} {m : List Du} (h : i < ls.length) : dzAt (ls.set i m) j = if j = i then m else dzAt ls j := by
  unfold dzAt
  by_cases e : j = i
  · subst e; rw [if_pos rfl]; simp [h]
  · rw [if_neg e, List.getElem?_set_ne (Ne.symm e)]
theorem flat_at {ls : List (List Du)} {i : Nat} (h : i < ls.length) : ls.flatten.Perm (dzAt ls i ++ (ls.eraseIdx i).flatten) := by
  induction ls generalizing i with
  | nil => simp at h
  | cons x ls ih =>
    cases i with
    | zero => simp [dzAt]
    | succ i =>
      have := ih (i := i) (by simpa using h)
      have e : dzAt (x :: ls) (i + 1) = dzAt ls i := by simp [dzAt]
      rw [e]
      simp only [List.flatten_cons, List.eraseIdx_cons_succ]
      refine (List.Perm.append_left x this).trans ?_
      rw [← List.append_assoc, ← List.append_assoc]
      exact List.Perm.append_right _ List.perm_append_comm
theorem erase_set {α : Type} (ls : List α) (i : Nat) (m : α) : (ls.set i m).eraseIdx i = ls.eraseIdx i := by
  induction ls generalizing i with
  | nil => simp
  | cons x ls ih => cases i with
    | zero => simp
    | succ i => simp [ih]
theorem flat_set {ls : List (List Du)} {i : Nat} (h : i < ls.length) {m m' : List Du} (hp : m.Perm m') : (ls.set i m).flatten.Perm (m' ++ (ls.eraseIdx i).flatten) := by
  have := flat_at (ls := ls.set i m) (i := i) (by simpa using h)
  rw [dzAt_set h, if_pos rfl, erase_set] at this
  exact this.trans (List.Perm.append_right _ hp)
theorem mem_flat {ls : List (List Du)} {x : Du} : x ∈ ls.flatten ↔ ∃ i, i < ls.length ∧ x ∈ dzAt ls i := by
  rw [List.mem_flatten]
  constructor
  · rintro ⟨l, hl, hx⟩
    obtain ⟨i, hi, rfl⟩ := List.mem_iff_getElem.1 hl
    exact ⟨i, hi, by rw [dzAt_lt hi]; exact hx⟩
  · rintro ⟨i, hi, hx⟩
    rw [dzAt_lt hi] at hx
    exact ⟨_, List.getElem_mem hi, hx⟩
/-- Which slot. -/
def slot (step : Int) (d : Du) : Int := d.time / step % 8
theorem slot_in (step : Int) (d : Du) : 0 ≤ slot step d ∧ slot step d < 8 := by unfold slot; omega
/-- Slots as they should be: each one rising, all in it belong there. -/
structure Slots (step : Int) (ls : List (List Du)) : Prop where
  len : ls.length = 8
  rise : ∀ i, i < 8 → Rise (dzAt ls i)
  at' : ∀ i, i < 8 → ∀ d ∈ dzAt ls i, slot step d = (i : Int)
theorem Slots.filter {step : Int} {ls : List (List Du)} (h : Slots step ls) {i : Nat} (hi : i < 8) : (dzAt ls i).Perm (ls.flatten.filter fun d => decide (slot step d = (i : Int))) := by
  have hp := (flat_at (ls := ls) (i := i) (by rw [h.len]; exact hi)).filter fun d => decide (slot step d = (i : Int))
  rw [List.filter_append] at hp
  have e1 : (dzAt ls i).filter (fun d => decide (slot step d = (i : Int))) = dzAt ls i := List.filter_eq_self.2 fun d hq => decide_eq_true (h.at' i hi d hq)
  have e2 : (ls.eraseIdx i).flatten.filter (fun d => decide (slot step d = (i : Int))) = [] := by
    rw [List.filter_eq_nil_iff]
    intro d hm hq
    obtain ⟨l, hl, hx⟩ := List.mem_flatten.1 hm
    obtain ⟨j, hj, e⟩ := List.mem_eraseIdx_iff_getElem.1 hl
    obtain ⟨hne, e⟩ := e
    have hj' : j < ls.length := hj
    have := h.at' j (by rw [← h.len]; exact hj') d (by rw [dzAt_lt hj', e]; exact hx)
    have hq' := of_decide_eq_true hq
    omega
  rw [e1, e2, List.append_nil] at hp
  exact hp.symm
/-- One way alone to lay them. -/
theorem Slots.one {step : Int} {ls ms : List (List Du)} (h : Slots step ls) (g : Slots step ms) (hp : ls.flatten.Perm ms.flatten) : ls = ms := by
  apply List.ext_getElem (by rw [h.len, g.len])
  intro i h1 h2
  have hi : i < 8 := by rw [← h.len]; exact h1
  have := rise_eq (h.rise i hi) (g.rise i hi) ((h.filter hi).trans ((hp.filter _).trans (g.filter hi).symm))
  rwa [dzAt_lt h1, dzAt_lt h2] at this
theorem Slots.into {step : Int} {ls : List (List Du)} (h : Slots step ls) {d : Du} (hn : d ∉ ls.flatten) : Slots step (ls.set (slot step d).toNat (ins (dzAt ls (slot step d).toNat) d)) ∧ (ls.set (slot step d).toNat (ins (dzAt ls (slot step d).toNat) d)).flatten.Perm (d :: ls.flatten) := by
  have hs := slot_in step d
  have hl := h.len
  obtain ⟨i, hi⟩ : ∃ i : Nat, slot step d = i := ⟨(slot step d).toNat, by omega⟩
  rw [hi, Int.toNat_natCast]
  have hi8 : i < 8 := by omega
  have hil : i < ls.length := by omega
  have hnd : d ∉ dzAt ls i := fun q => hn (mem_flat.2 ⟨i, hil, q⟩)
  refine ⟨⟨by simpa using hl, fun j hj => ?_, fun j hj x hx => ?_⟩, ?_⟩
  · rw [dzAt_set hil]
    split
    · exact ins_rise (h.rise i hi8) hnd
    · exact h.rise j hj
  · rw [dzAt_set hil] at hx
    split at hx
    · next e =>
      subst e
      rcases List.mem_cons.1 ((ins_perm _ _).subset hx) with rfl | hx
      · exact hi
      · exact h.at' j hj x hx
    · exact h.at' j hj x hx
  · refine (flat_set hil (ins_perm _ _)).trans ?_
    exact ((flat_at hil).symm.cons d)
/-- The first of a slot. -/
def slHd (ls : List (List Du)) (i : Nat) : Du := duAt (dzAt ls i) 0
def slHas (ls : List (List Du)) (i : Nat) : Bool := decide (0 < (dzAt ls i).length)
/-- Which of the first k slots holds the first of all; -1 where all are empty. -/
def wat (ls : List (List Du)) : Nat → Int
  | 0 => -1
  | k + 1 => if slHas ls k = true ∧ (wat ls k < 0 ∨ (slHd ls k).lt (slHd ls (wat ls k).toNat)) then (k : Int) else wat ls k
theorem wat_is (ls : List (List Du)) (k : Nat) : (wat ls k = -1 ∧ ∀ i, i < k → slHas ls i = false) ∨ ∃ b : Nat, wat ls k = b ∧ b < k ∧ slHas ls b = true ∧ ∀ i, i < k → slHas ls i = true → ¬ (slHd ls i).lt (slHd ls b) := by
  induction k with
  | zero => exact .inl ⟨rfl, fun i hi => by omega⟩
  | succ k ih =>
    unfold wat
    by_cases hw : slHas ls k = true
    · rcases ih with ⟨e, h⟩ | ⟨b, e, hb, hwb, h⟩
      · right
        refine ⟨k, by rw [if_pos ⟨hw, .inl (by omega)⟩], by omega, hw, fun i hi hwi => ?_⟩
        by_cases hik : i = k
        · subst hik; exact Du.lt_irrefl _
        · rw [h i (by omega)] at hwi; cases hwi
      · right
        rw [e, Int.toNat_natCast]
        by_cases hl : (slHd ls k).lt (slHd ls b)
        · refine ⟨k, by rw [if_pos ⟨hw, .inr hl⟩], by omega, hw, fun i hi hwi => ?_⟩
          by_cases hik : i = k
          · subst hik; exact Du.lt_irrefl _
          · exact Du.le_trans (Du.lt_asymm hl) (h i (by omega) hwi)
        · refine ⟨b, by rw [if_neg (fun q => by rcases q.2 with q | q; omega; exact hl q)], by omega, hwb, fun i hi hwi => ?_⟩
          by_cases hik : i = k
          · subst hik; exact hl
          · exact h i (by omega) hwi
    · have hw' : slHas ls k = false := by simpa using hw
      rw [if_neg (fun q => hw q.1)]
      rcases ih with ⟨e, h⟩ | ⟨b, e, hb, hwb, h⟩
      · left
        refine ⟨e, fun i hi => ?_⟩
        by_cases hik : i = k
        · subst hik; exact hw'
        · exact h i (by omega)
      · right
        refine ⟨b, e, by omega, hwb, fun i hi hwi => ?_⟩
        by_cases hik : i = k
        · subst hik; rw [hw'] at hwi; cases hwi
        · exact h i (by omega) hwi
/-- One less in that slot. -/
def wless (ls : List (List Du)) (b : Nat) : List (List Du) := ls.set b ((dzAt ls b).drop 1)
theorem Slots.less {step : Int} {ls : List (List Du)} (h : Slots step ls) {b : Nat} (hb : b < 8) (hh : slHas ls b = true) : Slots step (wless ls b) ∧ (slHd ls b :: (wless ls b).flatten).Perm ls.flatten := by
  have hl := h.len
  have hil : b < ls.length := by omega
  have hpos := of_decide_eq_true hh
  have e : dzAt ls b = slHd ls b :: (dzAt ls b).drop 1 := by
    unfold slHd
    cases hq : dzAt ls b with
    | nil => rw [hq] at hpos; simp at hpos
    | cons x r => simp [duAt]
  unfold wless
  refine ⟨⟨by simpa using hl, fun j hj => ?_, fun j hj x hx => ?_⟩, ?_⟩
  · rw [dzAt_set hil]
    split
    · exact (h.rise b hb).sublist (List.drop_sublist _ _)
    · exact h.rise j hj
  · rw [dzAt_set hil] at hx
    split at hx
    · next e2 => subst e2; exact h.at' j hj x (List.mem_of_mem_drop hx)
    · exact h.at' j hj x hx
  · have h1 := flat_set hil (List.Perm.refl ((dzAt ls b).drop 1))
    have h2 := flat_at hil
    rw [e] at h2
    exact (h1.cons _).trans h2.symm
theorem Slots.first {step : Int} {ls : List (List Du)} (h : Slots step ls) {b : Nat} (hm : ∀ i, i < 8 → slHas ls i = true → ¬ (slHd ls i).lt (slHd ls b)) {x : Du} (hx : x ∈ ls.flatten) : ¬ x.lt (slHd ls b) := by
  obtain ⟨i, hi, hxi⟩ := mem_flat.1 hx
  have hi8 : i < 8 := by rw [← h.len]; exact hi
  have hpos : 0 < (dzAt ls i).length := List.length_pos_of_mem hxi
  refine Du.le_trans (hm i hi8 (decide_eq_true hpos)) ?_
  have hr := h.rise i hi8
  unfold slHd
  cases hq : dzAt ls i with
  | nil => rw [hq] at hpos; simp at hpos
  | cons y r =>
    rw [hq] at hr hxi
    show ¬ x.lt (duAt (y :: r) 0)
    have e : duAt (y :: r) 0 = y := by simp [duAt]
    rw [e]
    rcases List.mem_cons.1 hxi with rfl | hxi
    · exact Du.lt_irrefl _
    · exact Du.lt_asymm ((List.pairwise_cons.1 hr).1 x hxi)
theorem Slots.nodup {step : Int} {ls : List (List Du)} (h : Slots step ls) : ls.flatten.Nodup := by
  unfold List.Nodup
  rw [List.pairwise_flatten]
  refine ⟨fun l hl => ?_, ?_⟩
  · obtain ⟨i, hi, rfl⟩ := List.mem_iff_getElem.1 hl
    have := (h.rise i (by rw [← h.len]; exact hi)).nodup
    rwa [dzAt_lt hi] at this
  · rw [List.pairwise_iff_getElem]
    intro i j hi hj hij x hx y hy e
    subst e
    have h1 := h.at' i (by rw [← h.len]; exact hi) x (by rw [dzAt_lt hi]; exact hx)
    have h2 := h.at' j (by rw [← h.len]; exact hj) x (by rw [dzAt_lt hj]; exact hy)
    omega
theorem dzAt_empty (n i : Nat) : dzAt (List.replicate n []) i = [] := by
  unfold dzAt
  rw [List.getElem?_replicate]
  split <;> rfl
theorem Slots.empty (step : Int) : Slots step (List.replicate 8 []) :=
  ⟨by simp, fun i _ => by rw [dzAt_empty]; exact List.Pairwise.nil, fun i _ d hm => by rw [dzAt_empty] at hm; cases hm⟩
/-- A heap's and a wheel's first is the same one. -/
theorem first_same {l m : List Du} {a b : Du} (hp : l.Perm m) (ha : a ∈ l) (hb : b ∈ m) (hla : ∀ x ∈ l, ¬ x.lt a) (hmb : ∀ x ∈ m, ¬ x.lt b) : a = b :=
  Du.eq_of (fun q => hmb a (hp.subset ha) q) (fun q => hla b (hp.symm.subset hb) q)
end Go.Proofs.YtkocbfikcjgigaaGreat

/-
  Wheels as plain functions: which are right, one put in, the first one taken; what they leave. By the verifier.
-/
namespace Go.Proofs.YtkocbfikcjgigaaGreat
open Go.RowKit

theorem flat_len (ls : List (List Du)) : ls.flatten.length = dzSum ls ls.length := by
  unfold dzSum
  rw [List.take_length, List.length_flatten]
/-- Is the one at k of the slot i right? -/
def whGood (step : Int) (i : Nat) (l : List Du) (k : Nat) : Bool := (duAt l k).ok && (decide (slot step (duAt l k) = (i : Int)) && !(decide (0 < k) && !decide ((duAt l (k - 1)).lt (duAt l k))))
def Wh.ok (r : Wh) : Bool := (inB 1 1000 r.step && decide (r.slots.length = 8)) && (decide (dzSum r.slots 8 ≤ 60) && (List.range 8).all fun i => (List.range (dzAt r.slots i).length).all (whGood r.step i (dzAt r.slots i)))
theorem Wh.ok_iff {r : Wh} : r.ok = true ↔ ((1 ≤ r.step ∧ r.step ≤ 1000) ∧ r.slots.length = 8) ∧ dzSum r.slots 8 ≤ 60 ∧ ∀ i, i < 8 → ∀ k, k < (dzAt r.slots i).length → whGood r.step i (dzAt r.slots i) k = true := by
  unfold Wh.ok
  simp only [Bool.and_eq_true, inB_true, decide_eq_true_eq, List.all_eq_true, List.mem_range]
theorem whGood_iff {step : Int} {i : Nat} {l : List Du} {k : Nat} : whGood step i l k = true ↔ (duAt l k).ok = true ∧ slot step (duAt l k) = (i : Int) ∧ (0 < k → (duAt l (k - 1)).lt (duAt l k)) := by
  unfold whGood
  cases (duAt l k).ok <;> by_cases h1 : slot step (duAt l k) = (i : Int) <;> by_cases h2 : 0 < k <;> by_cases h3 : (duAt l (k - 1)).lt (duAt l k) <;> simp [h1, h2, h3]
/-- In other words. -/
theorem Wh.ok_is {r : Wh} : r.ok = true ↔ (1 ≤ r.step ∧ r.step ≤ 1000) ∧ Slots r.step r.slots ∧ r.slots.flatten.length ≤ 60 ∧ ∀ x ∈ r.slots.flatten, x.ok = true := by
  rw [Wh.ok_iff]
  constructor
  · rintro ⟨⟨h1, h2⟩, h3, h4⟩
    have g := fun i hi k hk => whGood_iff.1 (h4 i hi k hk)
    refine ⟨h1, ⟨h2, fun i hi => rise_adj fun k k0 hk => (g i hi k hk).2.2 k0, fun i hi d hd => ?_⟩, ?_, fun x hx => ?_⟩
    · obtain ⟨k, hk, rfl⟩ := List.mem_iff_getElem.1 hd
      have := (g i hi k hk).2.1
      rwa [duAt_lt hk] at this
    · rw [flat_len, h2]; exact h3
    · obtain ⟨i, hi, hx⟩ := mem_flat.1 hx
      obtain ⟨k, hk, rfl⟩ := List.mem_iff_getElem.1 hx
      have := (g i (by omega) k hk).1
      rwa [duAt_lt hk] at this
  · rintro ⟨h1, hs, h3, h4⟩
    refine ⟨⟨h1, hs.len⟩, by rw [flat_len, hs.len] at h3; exact h3, fun i hi k hk => whGood_iff.2 ?_⟩
    have hm : duAt (dzAt r.slots i) k ∈ dzAt r.slots i := by rw [duAt_lt hk]; exact List.getElem_mem hk
    exact ⟨h4 _ (mem_flat.2 ⟨i, by rw [hs.len]; exact hi, hm⟩), hs.at' i hi _ hm, fun k0 => rise_of (hs.rise i hi) k0 hk⟩
def Wh.mayPut (r : Wh) (d : Du) : Bool := d.ok && (!duHas (dzAt r.slots (slot r.step d).toNat) d && !decide (dzSum r.slots r.slots.length = 60))
/-- Laid in where it belongs. -/
def Wh.into (r : Wh) (d : Du) : Wh := ⟨r.step, r.slots.set (slot r.step d).toNat (ins (dzAt r.slots (slot r.step d).toNat) d)⟩
def Wh.put (r : Wh) (d : Du) : Wh := if r.ok = true then (if r.mayPut d = true then r.into d else r) else ⟨0, []⟩
def Wh.putB (r : Wh) (d : Du) : Bool := r.ok && r.mayPut d
/-- Which slot holds the first one (none: below 0). -/
def Wh.first (r : Wh) : Int := wat r.slots 8
def Wh.less (r : Wh) : Wh := ⟨r.step, wless r.slots r.first.toNat⟩
def Wh.takeB (r : Wh) : Bool := r.ok && decide (0 ≤ r.first)
def Wh.take (r : Wh) : Wh := if r.ok = true then (if 0 ≤ r.first then r.less else r) else ⟨0, []⟩
def Wh.takeD (r : Wh) : Du := if r.takeB = true then slHd r.slots r.first.toNat else ⟨0, 0⟩
theorem Wh.not_in {r : Wh} {d : Du} (h : r.ok = true) (hn : d ∉ dzAt r.slots (slot r.step d).toNat) : d ∉ r.slots.flatten := by
  obtain ⟨h1, hs, h3, h4⟩ := Wh.ok_is.1 h
  intro hd
  obtain ⟨i, hi, hd⟩ := mem_flat.1 hd
  have e := hs.at' i (by rw [← hs.len]; exact hi) d hd
  rw [e] at hn
  exact hn (by simpa using hd)
theorem Wh.into_ok {r : Wh} {d : Du} (h : r.ok = true) (hd : d.ok = true) (hn : d ∉ r.slots.flatten) (hl : r.slots.flatten.length < 60) : (r.into d).ok = true ∧ (r.into d).slots.flatten.Perm (d :: r.slots.flatten) := by
  obtain ⟨h1, hs, h3, h4⟩ := Wh.ok_is.1 h
  obtain ⟨g1, g2⟩ := hs.into hn
  refine ⟨Wh.ok_is.2 ⟨h1, g1, ?_, fun x hx => ?_⟩, g2⟩
  · show (List.flatten (List.set _ _ _)).length ≤ 60
    rw [g2.length_eq, List.length_cons]
    omega
  · rcases List.mem_cons.1 (g2.subset hx) with rfl | hx
    · exact hd
    · exact h4 x hx
theorem Wh.mayPut_is {r : Wh} {d : Du} (h : r.ok = true) : r.mayPut d = true ↔ d.ok = true ∧ d ∉ r.slots.flatten ∧ r.slots.flatten.length < 60 := by
  obtain ⟨h1, hs, h3, h4⟩ := Wh.ok_is.1 h
  unfold Wh.mayPut
  simp only [Bool.and_eq_true, Bool.not_eq_true', duHas_false, decide_eq_false_iff_not]
  rw [← flat_len]
  constructor
  · rintro ⟨q1, q2, q3⟩
    exact ⟨q1, Wh.not_in h q2, by omega⟩
  · rintro ⟨q1, q2, q3⟩
    refine ⟨q1, fun hd => q2 (mem_flat.2 ⟨_, ?_, hd⟩), by omega⟩
    have := slot_in r.step d
    rw [hs.len]
    omega
theorem Wh.put_is {r : Wh} {d : Du} (h : r.putB d = true) : (r.put d).ok = true ∧ (r.put d).slots.flatten.Perm (d :: r.slots.flatten) ∧ (r.put d).step = r.step ∧ d ∉ r.slots.flatten ∧ d.ok = true := by
  unfold Wh.putB at h
  simp only [Bool.and_eq_true] at h
  obtain ⟨q1, q2, q3⟩ := (Wh.mayPut_is h.1).1 h.2
  have e : r.put d = r.into d := by unfold Wh.put; rw [if_pos h.1, if_pos h.2]
  rw [e]
  obtain ⟨g1, g2⟩ := Wh.into_ok h.1 q1 q2 q3
  exact ⟨g1, g2, rfl, q2, q1⟩
theorem Wh.first_is {r : Wh} (h : r.ok = true) : (r.first = -1 ∧ r.slots.flatten = []) ∨ ∃ b : Nat, r.first = b ∧ b < 8 ∧ slHas r.slots b = true ∧ ∀ x ∈ r.slots.flatten, ¬ x.lt (slHd r.slots b) := by
  obtain ⟨h1, hs, h3, h4⟩ := Wh.ok_is.1 h
  rcases wat_is r.slots 8 with ⟨e, g⟩ | ⟨b, e, hb, hh, hm⟩
  · left
    refine ⟨e, ?_⟩
    apply List.eq_nil_iff_forall_not_mem.2
    intro x hx
    obtain ⟨i, hi, hx⟩ := mem_flat.1 hx
    have := g i (by rw [← hs.len]; exact hi)
    unfold slHas at this
    have := of_decide_eq_false this
    have := List.length_pos_of_mem hx
    omega
  · exact .inr ⟨b, e, hb, hh, fun x hx => hs.first hm hx⟩
theorem Wh.take_is {r : Wh} (h : r.takeB = true) : r.take.ok = true ∧ (r.takeD :: r.take.slots.flatten).Perm r.slots.flatten ∧ (∀ x ∈ r.slots.flatten, ¬ x.lt r.takeD) ∧ r.take.step = r.step := by
  have h' := h
  unfold Wh.takeB at h'
  simp only [Bool.and_eq_true, decide_eq_true_eq] at h'
  obtain ⟨hk, h0⟩ := h'
  obtain ⟨h1, hs, h3, h4⟩ := Wh.ok_is.1 hk
  have e1 : r.take = r.less := by unfold Wh.take; rw [if_pos hk, if_pos h0]
  have e2 : r.takeD = slHd r.slots r.first.toNat := by unfold Wh.takeD; rw [if_pos h]
  rw [e1, e2]
  rcases Wh.first_is hk with ⟨e, -⟩ | ⟨b, e, hb, hh, hm⟩
  · omega
  have eb : r.first.toNat = b := by rw [e]; simp
  unfold Wh.less
  rw [eb]
  obtain ⟨g1, g2⟩ := hs.less hb hh
  refine ⟨Wh.ok_is.2 ⟨h1, g1, ?_, fun x hx => h4 x (g2.subset (List.mem_cons_of_mem _ hx))⟩, g2, hm, rfl⟩
  have := g2.length_eq
  rw [List.length_cons] at this
  show (wless r.slots b).flatten.length ≤ 60
  omega
theorem Wh.take_none {r : Wh} (h : r.ok = true) (hn : r.takeB = false) : r.slots.flatten = [] := by
  rcases Wh.first_is h with ⟨-, e⟩ | ⟨b, e, -⟩
  · exact e
  · unfold Wh.takeB at hn
    rw [h, e] at hn
    simp at hn
end Go.Proofs.YtkocbfikcjgigaaGreat

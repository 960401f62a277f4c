import Derived.RowKit3
import Derived.Below
import Derived.Laws.AppendOwn
import Derived.Laws.OwnMore
import Derived.Laws.MakeOwn
import Derived.Test.YtkocbfikcjgigaaGreatRows
/-
  A record of 2 numbers (Due) as plain data, and cells that hold a list of them. By the verifier, by program.
-/
namespace Go.Proofs.YtkocbfikcjgigaaGreat
open Go.RowKit

structure Du where
  time : Int
  id : Int
/-- As a value. -/
def Du.val (r : Du) : Value := .agg #[.int .i64 r.time, .int .i64 r.id]
/-- Its cells. -/
def Du.cells (r : Du) : List Value := [.int .i64 r.time, .int .i64 r.id]
/-- The one at a place. -/
def duAt (l : List Du) (k : Nat) : Du := l[k]?.getD ⟨0, 0⟩
theorem duAt_lt {l : List Du} {k : Nat} (h : k < l.length) : duAt l k = l[k] := by simp [duAt, List.getElem?_eq_getElem h]
/-- Cells that hold these. -/
def DusAt (w : World) (a : Option Addr) (l : List Du) : Prop :=
  ∀ k, k < l.length → ∃ b off, a = some ⟨b, off, none⟩ ∧ b < w.heap.size ∧ w.cell? ⟨b, off + k * 2, none⟩ = some (.int .i64 (duAt l k).time) ∧ w.cell? ⟨b, off + k * 2 + 1, none⟩ = some (.int .i64 (duAt l k).id)
theorem DusAt.below {w w' : World} {a : Option Addr} {l : List Du} (h : DusAt w a l) (g : Below w.heap.size w w') : DusAt w' a l := by
  intro k hk
  obtain ⟨b, off, e, hb, c0, c1⟩ := h k hk
  exact ⟨b, off, e, Nat.lt_of_lt_of_le hb g.size, by rw [g.cell (p := ⟨b, off + k * 2, none⟩) hb]; exact c0, by rw [g.cell (p := ⟨b, off + k * 2 + 1, none⟩) hb]; exact c1⟩
theorem DusAt.alloc {w : World} {a : Option Addr} {l : List Du} (h : DusAt w a l) (o : Obj) : DusAt (w.alloc o) a l :=
  h.below ((Below.refl _ _).alloc (Nat.le_refl _) _)
theorem DusAt.drew {w : World} {a : Option Addr} {l : List Du} (h : DusAt w a l) : DusAt w.drew a l := h.below (Below.refl _ _).drew
theorem DusAt.nil (w : World) (a : Option Addr) : DusAt w a [] := by intro k hk; simp at hk
theorem DusAt.empty {w : World} {l : List Du} (h : DusAt w none l) : l = [] := by
  cases l with
  | nil => rfl
  | cons z zs => obtain ⟨b, off, e, _⟩ := h 0 (by simp); cases e
theorem DusAt.cells {w : World} {b off k : Nat} {l : List Du} (h : DusAt w (some ⟨b, off, none⟩) l) (hk : k < l.length) : w.cell? ⟨b, off + k * 2, none⟩ = some (.int .i64 (duAt l k).time) ∧ w.cell? ⟨b, off + k * 2 + 1, none⟩ = some (.int .i64 (duAt l k).id) := by
  obtain ⟨b', off', e, _, c⟩ := h k hk
  cases e
  exact c
/-- The cells of a list. -/
def ducells (l : List Du) : List Value := l.flatMap Du.cells
theorem ducells_nil : ducells [] = [] := rfl
theorem ducells_cons (r : Du) (l : List Du) : ducells (r :: l) = .int .i64 r.time :: .int .i64 r.id :: ducells l := rfl
theorem ducells_append (a b : List Du) : ducells (a ++ b) = ducells a ++ ducells b := by simp [ducells]
theorem ducells_length (l : List Du) : (ducells l).length = l.length * 2 := by
  induction l with
  | nil => rfl
  | cons r l ih => rw [ducells_cons]; simp [ih]; omega
theorem ducells_get (l : List Du) (k : Nat) (hk : k < l.length) : (ducells l)[k * 2]? = some (.int .i64 (duAt l k).time) ∧ (ducells l)[k * 2 + 1]? = some (.int .i64 (duAt l k).id) := by
  induction l generalizing k with
  | nil => simp at hk
  | cons r l ih =>
    cases k with
    | zero => simp [ducells_cons, duAt]
    | succ k =>
      have := ih k (by simpa using hk)
      rw [show (k + 1) * 2 = k * 2 + 2 by omega]
      simpa [ducells_cons, duAt] using this
theorem ducells_one (l : List Du) : ∀ u ∈ ducells l, u.oneCell' = true := by
  intro u hu
  induction l with
  | nil => simp [ducells] at hu
  | cons r l ih =>
    rw [ducells_cons] at hu
    simp only [List.mem_cons] at hu
    rcases hu with rfl | rfl | hu
    · rfl
    · rfl
    · exact ih hu
theorem ducells_set (l : List Du) (k : Nat) (r : Du) : ((ducells l).set (k * 2) (.int .i64 r.time)).set (k * 2 + 1) (.int .i64 r.id) = ducells (l.set k r) := by
  induction l generalizing k with
  | nil => simp [ducells]
  | cons x l ih =>
    cases k with
    | zero => simp [ducells_cons]
    | succ k =>
      rw [show (k + 1) * 2 = k * 2 + 2 by omega, List.set_cons_succ, ducells_cons, ducells_cons, ← ih k]
      rfl
/-- A list of the call's own. -/
def DuRow (base : Nat) (w : World) (v : Value) (l : List Du) : Prop := w.ownsRow base 33 2 v l.length (ducells l)
theorem DuRow.carry {base : Nat} {w w' : World} {v : Value} {l : List Du} (h : DuRow base w v l) (g : ∀ k, v.ownBlock = some k → k < w.heap.size → w'.heap[k]? = w.heap[k]?) : DuRow base w' v l := by
  refine ⟨h.1, h.2.imp id ?_⟩
  rintro ⟨g0, cap, cur, h1, h2, h3, h4⟩
  exact ⟨g0, cap, cur, h1, h2, by rw [g g0 (by rw [h1]; rfl) (Array.getElem?_eq_some_iff.1 h3).1]; exact h3, h4⟩
theorem DuRow.below {base n : Nat} {w w' : World} {v : Value} {l : List Du} (h : DuRow base w v l) (hn : ∀ k, v.ownBlock = some k → k < n) (g : Below n w w') : DuRow base w' v l :=
  h.carry fun k hk _ => g.block k (hn k hk)
theorem DuRow.shape {base : Nat} {w : World} {v : Value} {l : List Du} (h : DuRow base w v l) : ∃ a cap, v = .slice a l.length cap := by
  rcases h.2 with ⟨rfl, hn⟩ | ⟨g, cap, cur, rfl, _⟩
  · rw [hn]; exact ⟨none, 0, rfl⟩
  · exact ⟨_, _, rfl⟩
theorem DuRow.cap {base : Nat} {w : World} {a : Option Addr} {c : Nat} {l : List Du} (h : DuRow base w (.slice a l.length c) l) : l.length ≤ c := by
  rcases h.2 with ⟨e, hn⟩ | ⟨g', c', cur, e, _, _, h4, _⟩
  · omega
  · cases e; exact h4
theorem DuRow.nilCap {base : Nat} {w : World} {a : Option Addr} {c : Nat} {l : List Du} (h : DuRow base w (.slice a l.length c) l) : a = none → c = 0 := by
  intro ha
  subst ha
  rcases h.2 with ⟨e, hn⟩ | ⟨g', c', cur, e, _⟩
  · simpa using (Value.slice.inj e).2.2
  · cases e
theorem DuRow.lt {base : Nat} {w : World} {v : Value} {l : List Du} (h : DuRow base w v l) : ∀ k, v.ownBlock = some k → base ≤ k ∧ k < w.heap.size := World.ownsRow.lt h
theorem DuRow.alloc {base : Nat} {w : World} {v : Value} {l : List Du} (h : DuRow base w v l) (o : Obj) : DuRow base (w.alloc o) v l := World.ownsRow.alloc h o
theorem DuRow.drew {base : Nat} {w : World} {v : Value} {l : List Du} (h : DuRow base w v l) : DuRow base w.drew v l := h
theorem DuRow.mono {base base' : Nat} {w : World} {v : Value} {l : List Du} (h : DuRow base w v l) (hb : base' ≤ base) : DuRow base' w v l := ⟨h.1, h.2.imp id fun ⟨g, cap, cur, h1, h2, h3⟩ => ⟨g, cap, cur, h1, Nat.le_trans hb h2, h3⟩⟩
theorem DuRow.at {base : Nat} {w : World} {a : Option Addr} {cap : Nat} {l : List Du} (h : DuRow base w (.slice a l.length cap) l) : DusAt w a l := by
  intro k hk
  rcases h.2 with ⟨_, hn⟩ | ⟨g, cap', cur, e, h2, h3, h4⟩
  · omega
  · obtain ⟨rfl, _, rfl⟩ : a = some ⟨g, 0, none⟩ ∧ True ∧ cap = cap' := by simpa using e
    have hc := World.ownsRow.cellAt (show w.ownsRow base 33 2 (.slice (some ⟨g, 0, none⟩) l.length cap) l.length _ from h)
    obtain ⟨e0, e1⟩ := ducells_get l k hk
    exact ⟨g, 0, rfl, (Array.getElem?_eq_some_iff.1 h3).1, by rw [Nat.zero_add, hc _ (by omega), e0], by rw [Nat.zero_add, hc _ (by omega), e1]⟩
/-- One of them put. -/
theorem DuRow.put {base : Nat} {w : World} {g cap n : Nat} {l : List Du} (h : w.ownsRow base 33 2 (.slice (some ⟨g, 0, none⟩) n cap) n (ducells l)) (k : Nat) (r : Du) :
    ((w.setCell ⟨g, k * 2, none⟩ (.int .i64 r.time)).setCell ⟨g, k * 2 + 1, none⟩ (.int .i64 r.id)).ownsRow base 33 2 (.slice (some ⟨g, 0, none⟩) n cap) n (ducells (l.set k r)) := by
  have h1 := (h.stored (k * 2) (.int .i64 r.time)).1
  have h2 := (h1.stored (k * 2 + 1) (.int .i64 r.id)).1
  rw [ducells_set] at h2
  exact h2
theorem duInfo : (Tryz.prog.info? 33).map (fun i => (i.zero, i.size, i.bytes)) = some (some (.agg #[.int .i64 0, .int .i64 0]), 2, 16) := by kernel_rfl
theorem duMade (n : Nat) : (madeCells #[Value.int .i64 0, .int .i64 0] (n * 2)).toList = ducells (List.replicate n ⟨0, 0⟩) := by
  apply List.ext_getElem?
  intro i
  by_cases hi : i < n * 2
  · obtain ⟨k, j, rfl, hj⟩ : ∃ k j, i = k * 2 + j ∧ j < 2 := ⟨i / 2, i % 2, by omega, Nat.mod_lt _ (by omega)⟩
    have hk : k < n := by omega
    obtain ⟨e0, e1⟩ := ducells_get (List.replicate n ⟨0, 0⟩) k (by simpa using hk)
    have hz : duAt (List.replicate n ⟨0, 0⟩) k = ⟨0, 0⟩ := by simp [duAt, hk]
    rw [hz] at e0 e1
    have hm : (k * 2 + j) % 2 = j := by omega
    have hL : (madeCells #[Value.int .i64 0, .int .i64 0] (n * 2)).toList[k * 2 + j]? = some (.int .i64 0) := by
      simp [madeCells, hi, hm]
      match j, hj with
      | 0, _ => rfl
      | 1, _ => rfl
    rw [hL]
    match j, hj with
    | 0, _ => exact e0.symm
    | 1, _ => exact e1.symm
  · rw [List.getElem?_eq_none (by simp [madeCells]; omega), List.getElem?_eq_none (by rw [ducells_length]; simp; omega)]
theorem duTakeSet (l : List Du) (n k : Nat) (hn : l.length = n) (hk : k < n) : (l.take k ++ List.replicate (n - k) (⟨0, 0⟩ : Du)).set k (duAt l k) = l.take (k + 1) ++ List.replicate (n - (k + 1)) ⟨0, 0⟩ := by
  subst hn
  rw [List.set_append_right _ _ (by simp; omega), List.take_succ_eq_append_getElem hk, duAt_lt hk]
  simp only [List.length_take, Nat.min_eq_left (Nat.le_of_lt hk), Nat.sub_self]
  obtain ⟨m, hm⟩ : ∃ m, l.length - k = m + 1 := ⟨l.length - k - 1, by omega⟩
  rw [hm, show l.length - (k + 1) = m by omega, List.replicate_succ, List.set_cons_zero]
  simp only [List.append_assoc, List.cons_append, List.nil_append]
end Go.Proofs.YtkocbfikcjgigaaGreat

/-
  Dues in order: heaps by steps up and down: what they leave is a heap, and the same dues. By the verifier.
-/
namespace Go.Proofs.YtkocbfikcjgigaaGreat
open Go.RowKit

/-- Ahead of another one. -/
abbrev Du.lt (a b : Du) : Prop := a.time < b.time ∨ a.time = b.time ∧ a.id < b.id
theorem Du.lt_irrefl (a : Du) : ¬ a.lt a := by unfold Du.lt; omega
theorem Du.lt_trans {a b c : Du} (h1 : a.lt b) (h2 : b.lt c) : a.lt c := by unfold Du.lt at *; omega
theorem Du.lt_asymm {a b : Du} (h1 : a.lt b) : ¬ b.lt a := by unfold Du.lt at *; omega
theorem Du.le_trans {a b c : Du} (h1 : ¬ b.lt a) (h2 : ¬ c.lt b) : ¬ c.lt a := by unfold Du.lt at *; omega
theorem Du.eq_of {a b : Du} (h1 : ¬ a.lt b) (h2 : ¬ b.lt a) : a = b := by
  cases a; cases b
  unfold Du.lt at *
  simp only at *
  congr <;> omega
theorem Du.lt_ne {a b : Du} (h : a.lt b) : a ≠ b := fun e => by subst e; exact Du.lt_irrefl _ h

/-- Two of a list change places. -/
def swp (l : List Du) (i j : Nat) : List Du := (l.set i (duAt l j)).set j (duAt l i)
theorem swp_len (l : List Du) (i j : Nat) : (swp l i j).length = l.length := by simp [swp]
theorem duAt_swp {l : List Du} {i j k : Nat} (hi : i < l.length) (hj : j < l.length) : duAt (swp l i j) k = if k = j then duAt l i else if k = i then duAt l j else duAt l k := by
  unfold swp
  by_cases h1 : k = j
  · subst h1; rw [if_pos rfl]; simp [duAt, hj]
  · rw [if_neg h1]
    by_cases h2 : k = i
    · subst h2; rw [if_pos rfl]
      simp [duAt, hi, Ne.symm h1]
    · rw [if_neg h2]
      simp [duAt, Ne.symm h1, Ne.symm h2]
theorem swp_perm {l : List Du} {i j : Nat} (hi : i < l.length) (hj : j < l.length) : (swp l i j).Perm l := by
  unfold swp
  rw [duAt_lt hi, duAt_lt hj]
  exact List.set_set_perm hi hj

/-- In the order of a heap, but for one place. -/
def HpO (l : List Du) : Prop := ∀ j, 0 < j → j < l.length → ¬ (duAt l j).lt (duAt l ((j - 1) / 2))
/-- So many steps up. -/
def up : Nat → List Du → Nat → List Du
  | 0, l, _ => l
  | f + 1, l, i => if 0 < i ∧ (duAt l i).lt (duAt l ((i - 1) / 2)) then up f (swp l i ((i - 1) / 2)) ((i - 1) / 2) else l
theorem up_len (f : Nat) : ∀ (l : List Du) (i : Nat), (up f l i).length = l.length := by
  induction f with
  | zero => intro l i; rfl
  | succ f ih =>
    intro l i
    unfold up
    split
    · rw [ih, swp_len]
    · rfl
theorem up_perm (f : Nat) : ∀ (l : List Du) (i : Nat), i < l.length → (up f l i).Perm l := by
  induction f with
  | zero => intro l i _; exact List.Perm.refl _
  | succ f ih =>
    intro l i hi
    unfold up
    split
    · exact (ih _ _ (by rw [swp_len]; omega)).trans (swp_perm hi (by omega))
    · exact List.Perm.refl _
/-- All but the one at i and its parent; those below i are not ahead of its parent. -/
structure UpI (l : List Du) (i : Nat) : Prop where
  oth : ∀ j, 0 < j → j < l.length → j ≠ i → ¬ (duAt l j).lt (duAt l ((j - 1) / 2))
  ch : ∀ j, 0 < j → j < l.length → (j - 1) / 2 = i → 0 < i → ¬ (duAt l j).lt (duAt l ((i - 1) / 2))
theorem UpI.done {l : List Du} {i : Nat} (h : UpI l i) (hn : ¬ (0 < i ∧ (duAt l i).lt (duAt l ((i - 1) / 2)))) : HpO l := fun j h0 hj => by
  by_cases e : j = i
  · subst e; exact fun q => hn ⟨h0, q⟩
  · exact h.oth j h0 hj e
theorem UpI.step {l : List Du} {i : Nat} (h : UpI l i) (hi : i < l.length) (h0 : 0 < i) (hl : (duAt l i).lt (duAt l ((i - 1) / 2))) : UpI (swp l i ((i - 1) / 2)) ((i - 1) / 2) := by
  have hp : (i - 1) / 2 < l.length := by omega
  have at' := fun k => duAt_swp (k := k) hi hp
  refine ⟨fun j j0 hj hne => ?_, fun j j0 hj hpj hpp => ?_⟩
  · rw [swp_len] at hj
    rw [at', at', if_neg hne]
    by_cases e : j = i
    · subst e
      rw [if_pos rfl, if_pos rfl]
      exact Du.lt_asymm hl
    · rw [if_neg e]
      by_cases e2 : (j - 1) / 2 = (i - 1) / 2
      · rw [if_pos e2]
        have := h.oth j j0 hj e
        rw [e2] at this
        exact Du.le_trans (Du.lt_asymm hl) this
      · rw [if_neg e2]
        by_cases e3 : (j - 1) / 2 = i
        · rw [if_pos e3]
          exact h.ch j j0 hj e3 h0
        · rw [if_neg e3]
          exact h.oth j j0 hj e
  · rw [swp_len] at hj
    have hpne : (i - 1) / 2 ≠ i := by omega
    have hgp : ((i - 1) / 2 - 1) / 2 ≠ (i - 1) / 2 := by omega
    have hgi : ((i - 1) / 2 - 1) / 2 ≠ i := by omega
    rw [at', at', if_neg hgp, if_neg hgi]
    have hg := h.oth ((i - 1) / 2) hpp hp (by omega)
    by_cases e1 : j = (i - 1) / 2
    · omega
    · rw [if_neg e1]
      by_cases e2 : j = i
      · rw [if_pos e2]; exact hg
      · rw [if_neg e2]
        have := h.oth j j0 hj e2
        rw [hpj] at this
        exact Du.le_trans hg this
theorem up_ho (f : Nat) : ∀ (l : List Du) (i : Nat), i < l.length → i ≤ f → UpI l i → HpO (up f l i) := by
  induction f with
  | zero =>
    intro l i hi hf h
    exact h.done (by omega)
  | succ f ih =>
    intro l i hi hf h
    unfold up
    split
    · next hc => exact ih _ _ (by rw [swp_len]; omega) (by omega) (h.step hi hc.1 hc.2)
    · next hc => exact h.done hc
theorem up_fuel (f : Nat) : ∀ (g : Nat) (l : List Du) (i : Nat), i ≤ f → i ≤ g → up f l i = up g l i := by
  induction f with
  | zero =>
    intro g l i hf hg
    cases g with
    | zero => rfl
    | succ g => unfold up; rw [if_neg (by omega)]
  | succ f ih =>
    intro g l i hf hg
    cases g with
    | zero => unfold up; rw [if_neg (by omega)]
    | succ g =>
      unfold up
      split
      · exact ih g _ _ (by omega) (by omega)
      · rfl
/-- One put into a heap. -/
def hput (l : List Du) (d : Du) : List Du := up l.length (l ++ [d]) l.length
theorem hput_len (l : List Du) (d : Du) : (hput l d).length = l.length + 1 := by simp [hput, up_len]
theorem hput_perm (l : List Du) (d : Du) : (hput l d).Perm (d :: l) := (up_perm _ _ _ (by simp)).trans (List.perm_append_singleton d l)
theorem duAt_old {l : List Du} {d : Du} {j : Nat} (h : j < l.length) : duAt (l ++ [d]) j = duAt l j := by unfold duAt; rw [List.getElem?_append_left h]
theorem hput_ho {l : List Du} {d : Du} (h : HpO l) : HpO (hput l d) := by
  refine up_ho _ _ _ (by simp) (Nat.le_refl _) ⟨fun j j0 hj hne => ?_, fun j j0 hj hp h0 => ?_⟩
  · simp at hj
    rw [duAt_old (by omega), duAt_old (by omega)]
    exact h j j0 (by omega)
  · simp at hj
    omega

/-- The one of the two below it that is ahead. -/
def kid (l : List Du) (i n : Nat) : Nat := if 2 * i + 2 < n ∧ (duAt l (2 * i + 2)).lt (duAt l (2 * i + 1)) then 2 * i + 2 else 2 * i + 1
/-- So many steps down. -/
def down : Nat → List Du → Nat → List Du
  | 0, l, _ => l
  | f + 1, l, i => if 2 * i + 1 < l.length ∧ (duAt l (kid l i l.length)).lt (duAt l i) then down f (swp l i (kid l i l.length)) (kid l i l.length) else l
theorem kid_in {l : List Du} {i : Nat} (h : 2 * i + 1 < l.length) : i < kid l i l.length ∧ kid l i l.length < l.length ∧ (kid l i l.length - 1) / 2 = i := by
  unfold kid
  split <;> omega
theorem down_len (f : Nat) : ∀ (l : List Du) (i : Nat), (down f l i).length = l.length := by
  induction f with
  | zero => intro l i; rfl
  | succ f ih =>
    intro l i
    unfold down
    split
    · rw [ih, swp_len]
    · rfl
theorem down_perm (f : Nat) : ∀ (l : List Du) (i : Nat), (down f l i).Perm l := by
  induction f with
  | zero => intro l i; exact List.Perm.refl _
  | succ f ih =>
    intro l i
    unfold down
    split
    · next hc =>
      have := kid_in hc.1
      exact (ih _ _).trans (swp_perm (by omega) (by omega))
    · exact List.Perm.refl _
/-- All but those below i; those below i are not ahead of its parent. -/
structure DnI (l : List Du) (i : Nat) : Prop where
  oth : ∀ j, 0 < j → j < l.length → (j - 1) / 2 ≠ i → ¬ (duAt l j).lt (duAt l ((j - 1) / 2))
  ch : ∀ j, 0 < j → j < l.length → (j - 1) / 2 = i → 0 < i → ¬ (duAt l j).lt (duAt l ((i - 1) / 2))
theorem kid_least {l : List Du} {i : Nat} (_h : 2 * i + 1 < l.length) {j : Nat} (j0 : 0 < j) (hj : j < l.length) (hp : (j - 1) / 2 = i) : ¬ (duAt l j).lt (duAt l (kid l i l.length)) := by
  unfold kid
  have hc : j = 2 * i + 1 ∨ j = 2 * i + 2 := by omega
  split
  · next h2 =>
    rcases hc with rfl | rfl
    · exact Du.lt_asymm h2.2
    · exact Du.lt_irrefl _
  · next h2 =>
    rcases hc with rfl | rfl
    · exact Du.lt_irrefl _
    · exact fun q => h2 ⟨hj, q⟩
theorem DnI.done {l : List Du} {i : Nat} (h : DnI l i) (hn : ¬ (2 * i + 1 < l.length ∧ (duAt l (kid l i l.length)).lt (duAt l i))) : HpO l := fun j j0 hj => by
  by_cases e : (j - 1) / 2 = i
  · rw [e]
    have h2 : 2 * i + 1 < l.length := by omega
    have h3 : ¬ (duAt l (kid l i l.length)).lt (duAt l i) := fun q => hn ⟨h2, q⟩
    exact Du.le_trans h3 (kid_least h2 j0 hj e)
  · exact h.oth j j0 hj e
theorem DnI.step {l : List Du} {i : Nat} (h : DnI l i) (h2 : 2 * i + 1 < l.length) (hl : (duAt l (kid l i l.length)).lt (duAt l i)) : DnI (swp l i (kid l i l.length)) (kid l i l.length) := by
  obtain ⟨k1, k2, k3⟩ := kid_in h2
  have kl := fun {j} j0 hj hp => kid_least (j := j) h2 j0 hj hp
  generalize kid l i l.length = k at *
  have at' := fun x => duAt_swp (k := x) (show i < l.length by omega) k2
  refine ⟨fun j j0 hj hne => ?_, fun j j0 hj hpj hpp => ?_⟩
  · rw [swp_len] at hj
    rw [at', at', if_neg hne]
    by_cases e1 : j = k
    · subst e1
      rw [if_pos rfl, if_pos k3]
      exact Du.lt_asymm hl
    · rw [if_neg e1]
      by_cases e2 : j = i
      · subst e2
        rw [if_pos rfl, if_neg (by omega)]
        exact h.ch k (by omega) k2 k3 j0
      · rw [if_neg e2]
        by_cases e3 : (j - 1) / 2 = i
        · rw [if_pos e3]
          exact kl j0 hj e3
        · rw [if_neg e3]
          exact h.oth j j0 hj e3
  · rw [swp_len] at hj
    rw [at', at', if_neg (show j ≠ k by omega), if_neg (show j ≠ i by omega), k3, if_neg (by omega), if_pos rfl]
    have := h.oth j j0 hj (by omega)
    rw [hpj] at this
    exact this
theorem down_ho (f : Nat) : ∀ (l : List Du) (i : Nat), l.length ≤ f + i + 1 → DnI l i → HpO (down f l i) := by
  induction f with
  | zero =>
    intro l i hf h
    exact h.done (by omega)
  | succ f ih =>
    intro l i hf h
    unfold down
    split
    · next hc =>
      have := kid_in hc.1
      exact ih _ _ (by rw [swp_len]; omega) (h.step hc.1 hc.2)
    · next hc => exact h.done hc
theorem down_fuel (f : Nat) : ∀ (g : Nat) (l : List Du) (i : Nat), l.length ≤ f + i + 1 → l.length ≤ g + i + 1 → down f l i = down g l i := by
  induction f with
  | zero =>
    intro g l i hf hg
    cases g with
    | zero => rfl
    | succ g => unfold down; rw [if_neg (by omega)]
  | succ f ih =>
    intro g l i hf hg
    cases g with
    | zero => unfold down; rw [if_neg (by omega)]
    | succ g =>
      unfold down
      split
      · next hc =>
        have := kid_in hc.1
        exact ih g _ _ (by rw [swp_len]; omega) (by rw [swp_len]; omega)
      · rfl
/-- What is left of a heap: the last one at the first's place. -/
def hmoved (l : List Du) : List Du := (l.take (l.length - 1)).set 0 (duAt l (l.length - 1))
def htake (l : List Du) : List Du := down (l.length - 1) (hmoved l) 0
theorem hmoved_len (l : List Du) : (hmoved l).length = l.length - 1 := by simp [hmoved]
theorem htake_len (l : List Du) : (htake l).length = l.length - 1 := by unfold htake; rw [down_len, hmoved_len]
theorem hmoved_perm {l : List Du} (h : 0 < l.length) : (duAt l 0 :: hmoved l).Perm l := by
  cases l with
  | nil => simp at h
  | cons x r =>
    unfold hmoved
    by_cases hr : r = []
    · subst hr; simp [duAt]
    · obtain ⟨m, z, rfl⟩ : ∃ m z, r = m ++ [z] := ⟨r.dropLast, r.getLast hr, (List.dropLast_concat_getLast hr).symm⟩
      have e1 : duAt (x :: (m ++ [z])) ((x :: (m ++ [z])).length - 1) = z := by simp [duAt]
      have e2 : (x :: (m ++ [z])).take ((x :: (m ++ [z])).length - 1) = x :: m := by simp
      rw [e1, e2]
      show (x :: z :: m).Perm _
      exact List.Perm.cons x (List.perm_append_singleton z m).symm
theorem htake_perm {l : List Du} (h : 0 < l.length) : (duAt l 0 :: htake l).Perm l := ((down_perm _ _ _).cons _).trans (hmoved_perm h)
theorem duAt_moved {l : List Du} {j : Nat} (h0 : 0 < j) (h : j < l.length - 1) : duAt (hmoved l) j = duAt l j := by
  unfold hmoved duAt
  rw [List.getElem?_set_ne (by omega), List.getElem?_take_of_lt h]
theorem HpO.root {l : List Du} (h : HpO l) : ∀ j, j < l.length → ¬ (duAt l j).lt (duAt l 0) := by
  intro j
  induction j using Nat.strongRecOn with
  | _ j ih =>
    intro hj
    by_cases e : j = 0
    · subst e; exact Du.lt_irrefl _
    · exact Du.le_trans (ih ((j - 1) / 2) (by omega) (by omega)) (h j (by omega) hj)
theorem HpO.min {l : List Du} (h : HpO l) {x : Du} (hx : x ∈ l) : ¬ x.lt (duAt l 0) := by
  obtain ⟨i, hi, rfl⟩ := List.mem_iff_getElem.1 hx
  rw [← duAt_lt hi]
  exact h.root i hi
theorem htake_ho {l : List Du} (h : HpO l) : HpO (htake l) := by
  unfold htake
  refine down_ho _ _ _ (by rw [hmoved_len]; omega) ⟨fun j j0 hj hp => ?_, fun j j0 hj hp h0 => by omega⟩
  rw [hmoved_len] at hj
  rw [duAt_moved j0 hj, duAt_moved (by omega) (by omega)]
  exact h j j0 (by omega)
end Go.Proofs.YtkocbfikcjgigaaGreat

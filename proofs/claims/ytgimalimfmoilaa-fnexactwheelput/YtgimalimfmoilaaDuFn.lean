/-
  Heaps of dues as plain functions: which are right, one put in, the first one taken; what they leave. By the verifier.
-/
import Derived.Test.YtgimalimfmoilaaDuOrd
import Derived.Test.YtgimalimfmoilaaM1NumIn
namespace Go.Proofs.Ytgimalimfmoilaa
open Go.RowKit

def Du.ok (d : Du) : Bool := inB 0 1099511627776 d.time && inB 1 1000000 d.id
abbrev Du.same (a b : Du) : Prop := a.time = b.time ∧ a.id = b.id
theorem Du.same_iff {a b : Du} : a.same b ↔ a = b := by
  cases a; cases b
  simp [Du.same]
/-- Is one among them? -/
def duHas (l : List Du) (d : Du) : Bool := l.any fun x => decide (x.same d)
theorem duHas_iff {l : List Du} {d : Du} : duHas l d = true ↔ d ∈ l := by
  unfold duHas
  rw [List.any_eq_true]
  constructor
  · rintro ⟨x, hx, h⟩
    rw [← Du.same_iff.1 (of_decide_eq_true h)]
    exact hx
  · intro h
    exact ⟨d, h, decide_eq_true (Du.same_iff.2 rfl)⟩
theorem duHas_false {l : List Du} {d : Du} : duHas l d = false ↔ d ∉ l := by
  rw [← duHas_iff]
  simp
theorem duHas_at {l : List Du} {d : Du} : duHas l d = true ↔ ∃ j, j < l.length ∧ duAt l j = d := by
  rw [duHas_iff, List.mem_iff_getElem]
  constructor
  · rintro ⟨i, hi, h⟩
    exact ⟨i, hi, by rw [duAt_lt hi]; exact h⟩
  · rintro ⟨i, hi, h⟩
    exact ⟨i, hi, by rw [← duAt_lt hi]; exact h⟩
/-- Is the one at j right? -/
def duGood (l : List Du) (j : Nat) : Bool := (duAt l j).ok && (!duHas (l.take j) (duAt l j) && !(decide (0 < j) && decide ((duAt l j).lt (duAt l ((j - 1) / 2)))))
def hok (l : List Du) : Bool := decide (l.length ≤ 60) && (List.range l.length).all (duGood l)
theorem hok_iff {l : List Du} : hok l = true ↔ l.length ≤ 60 ∧ ∀ j, j < l.length → duGood l j = true := by
  unfold hok
  simp only [Bool.and_eq_true, decide_eq_true_eq, List.all_eq_true, List.mem_range]
theorem nodup_take {l : List Du} : l.Nodup ↔ ∀ j, j < l.length → duAt l j ∉ l.take j := by
  unfold List.Nodup
  rw [List.pairwise_iff_getElem]
  constructor
  · intro h j hj hm
    obtain ⟨i, hi, e⟩ := List.mem_iff_getElem.1 hm
    rw [List.length_take] at hi
    rw [List.getElem_take, duAt_lt hj] at e
    exact h i j (by omega) hj (by omega) e
  · intro h i j hi hj hij e
    refine h j hj ?_
    rw [List.mem_iff_getElem]
    exact ⟨i, by rw [List.length_take]; omega, by rw [List.getElem_take, duAt_lt hj]; exact e⟩
/-- In other words. -/
theorem hok_is {l : List Du} : hok l = true ↔ l.length ≤ 60 ∧ (∀ x ∈ l, x.ok = true) ∧ l.Nodup ∧ HpO l := by
  rw [hok_iff, nodup_take]
  unfold duGood
  simp only [Bool.and_eq_true, Bool.not_eq_true', duHas_false, Bool.and_eq_false_iff, decide_eq_false_iff_not]
  constructor
  · rintro ⟨h1, h2⟩
    refine ⟨h1, fun x hx => ?_, fun j hj => (h2 j hj).2.1, fun j j0 hj => ?_⟩
    · obtain ⟨i, hi, rfl⟩ := List.mem_iff_getElem.1 hx
      have := (h2 i hi).1
      rwa [duAt_lt hi] at this
    · rcases (h2 j hj).2.2 with q | q
      · omega
      · exact q
  · rintro ⟨h1, h2, h3, h4⟩
    refine ⟨h1, fun j hj => ⟨by rw [duAt_lt hj]; exact h2 _ (List.getElem_mem hj), h3 j hj, ?_⟩⟩
    by_cases j0 : 0 < j
    · exact .inr (h4 j j0 hj)
    · exact .inl j0
def mayPut (l : List Du) (d : Du) : Bool := d.ok && (!duHas l d && !decide (l.length = 60))
def putH (l : List Du) (d : Du) : List Du := if hok l = true then (if mayPut l d = true then hput l d else l) else []
def putB (l : List Du) (d : Du) : Bool := hok l && mayPut l d
def mayTake (l : List Du) : Bool := hok l && !decide (l.length = 0)
def takeH (l : List Du) : List Du := if mayTake l = true then htake l else []
def takeD (l : List Du) : Du := if mayTake l = true then duAt l 0 else ⟨0, 0⟩
theorem mayTake_iff {l : List Du} : mayTake l = true ↔ hok l = true ∧ 0 < l.length := by
  unfold mayTake
  simp only [Bool.and_eq_true, Bool.not_eq_true', decide_eq_false_iff_not]
  constructor
  · rintro ⟨h, g⟩; exact ⟨h, by omega⟩
  · rintro ⟨h, g⟩; exact ⟨h, by omega⟩
theorem hput_hok {l : List Du} {d : Du} (h : hok l = true) (hm : mayPut l d = true) : hok (hput l d) = true := by
  obtain ⟨h1, h2, h3, h4⟩ := hok_is.1 h
  unfold mayPut at hm
  simp only [Bool.and_eq_true, Bool.not_eq_true', duHas_false, decide_eq_false_iff_not] at hm
  have hp := hput_perm l d
  refine hok_is.2 ⟨by rw [hput_len]; omega, fun x hx => ?_, hp.nodup_iff.2 (List.nodup_cons.2 ⟨hm.2.1, h3⟩), hput_ho h4⟩
  rcases List.mem_cons.1 (hp.subset hx) with rfl | hx
  · exact hm.1
  · exact h2 x hx
theorem htake_hok {l : List Du} (h : mayTake l = true) : hok (htake l) = true ∧ (duAt l 0 :: htake l).Perm l ∧ (∀ x ∈ l, ¬ x.lt (duAt l 0)) ∧ (htake l).length + 1 = l.length ∧ duAt l 0 ∈ l := by
  obtain ⟨hk, h0⟩ := mayTake_iff.1 h
  obtain ⟨h1, h2, h3, h4⟩ := hok_is.1 hk
  have hp := htake_perm h0
  refine ⟨hok_is.2 ⟨by rw [htake_len]; omega, fun x hx => h2 x (hp.subset (List.mem_cons_of_mem _ hx)), (List.nodup_cons.1 (hp.nodup_iff.2 h3)).2, htake_ho h4⟩, hp, fun x hx => h4.min hx, by rw [htake_len]; omega, by rw [duAt_lt h0]; exact List.getElem_mem h0⟩
/-- What comes next is not ahead of what came. -/
theorem take_next {l : List Du} (h : mayTake l = true) {x : Du} (hx : x ∈ htake l) : (duAt l 0).lt x := by
  obtain ⟨_, hp, hm, _⟩ := htake_hok h
  have h3 := (hok_is.1 (mayTake_iff.1 h).1).2.2.1
  have hne : duAt l 0 ≠ x := fun e => (List.nodup_cons.1 (hp.nodup_iff.2 h3)).1 (by rw [e]; exact hx)
  apply Classical.byContradiction
  intro q
  exact hne (Du.eq_of q (hm x (hp.subset (List.mem_cons_of_mem _ hx))))
end Go.Proofs.Ytgimalimfmoilaa

/-
  Lists of records of 1 number(s) and a list of numbers (Host): cells that hold them, memory of the call's own, sums of lengths. By the verifier, by program.
-/
import Derived.RowKit3
import Derived.Below
import Derived.Laws.AppendOwn
import Derived.Laws.OwnMore
import Derived.Laws.MakeOwn
import Derived.Test.YtojmghnbekneiaaRows
import Derived.Test.YtojmghnbekneiaaIntRow
import Derived.Test.YtojmghnbekneiaaSlIn
import Derived.Test.YtojmghnbekneiaaIntLie
import Derived.Test.YtojmghnbekneiaaM0DrawCur
namespace Go.Proofs.Ytojmghnbekneiaa
open Go.RowKit

structure Hs where
  turn : Int
  flows : List Int
/-- As a value. -/
def Hs.val (r : Hs) (a : Option Addr) (c : Nat) : Value := .agg #[.int .i64 r.turn, .slice a r.flows.length c]
/-- The one at a place. -/
def hsAt (l : List Hs) (i : Nat) : Hs := l[i]?.getD ⟨0, []⟩
theorem hsAt_lt {l : List Hs} {i : Nat} (h : i < l.length) : hsAt l i = l[i] := by simp [hsAt, List.getElem?_eq_getElem h]
theorem hsAt_set {l : List Hs} {r : Hs} {j : Nat} (h : j < l.length) : hsAt (l.set j r) j = r := by simp [hsAt, h]
theorem hsAt_other {l : List Hs} {r : Hs} {i j : Nat} (h : i ≠ j) : hsAt (l.set j r) i = hsAt l i := by unfold hsAt; rw [List.getElem?_set_ne (fun e => h e.symm)]
theorem hsAt_old {l : List Hs} {r : Hs} {i : Nat} (h : i < l.length) : hsAt (l ++ [r]) i = hsAt l i := by unfold hsAt; rw [List.getElem?_append_left h]
theorem hsAt_new {l : List Hs} {r : Hs} : hsAt (l ++ [r]) l.length = r := by simp [hsAt]
/-- As it lies: its numbers and the header of its list. -/
structure Hsr where
  turn : Int
  hd : Value
def Hsr.cells (r : Hsr) : List Value := [.int .i64 r.turn, r.hd]
def hsrAt (l : List Hsr) (i : Nat) : Hsr := l[i]?.getD ⟨0, .slice none 0 0⟩
theorem hsrAt_lt {l : List Hsr} {i : Nat} (h : i < l.length) : hsrAt l i = l[i] := by simp [hsrAt, List.getElem?_eq_getElem h]
theorem hsrAt_set {l : List Hsr} {r : Hsr} {j : Nat} (h : j < l.length) : hsrAt (l.set j r) j = r := by simp [hsrAt, h]
theorem hsrAt_other {l : List Hsr} {r : Hsr} {i j : Nat} (h : i ≠ j) : hsrAt (l.set j r) i = hsrAt l i := by unfold hsrAt; rw [List.getElem?_set_ne (fun e => h e.symm)]
theorem hsrAt_old {l : List Hsr} {r : Hsr} {i : Nat} (h : i < l.length) : hsrAt (l ++ [r]) i = hsrAt l i := by unfold hsrAt; rw [List.getElem?_append_left h]
theorem hsrAt_new {l : List Hsr} {r : Hsr} : hsrAt (l ++ [r]) l.length = r := by simp [hsrAt]
/-- The cells of a list. -/
def hscells (l : List Hsr) : List Value := l.flatMap Hsr.cells
theorem hscells_cons (r : Hsr) (l : List Hsr) : hscells (r :: l) = .int .i64 r.turn :: r.hd :: hscells l := rfl
theorem hscells_append (a b : List Hsr) : hscells (a ++ b) = hscells a ++ hscells b := by simp [hscells]
theorem hscells_length (l : List Hsr) : (hscells l).length = l.length * 2 := by
  induction l with
  | nil => rfl
  | cons r l ih => rw [hscells_cons]; simp [ih]; omega
theorem hscells_get (l : List Hsr) (k : Nat) (hk : k < l.length) : (hscells l)[k * 2]? = some (.int .i64 (hsrAt l k).turn) ∧ (hscells l)[k * 2 + 1]? = some (hsrAt l k).hd := by
  induction l generalizing k with
  | nil => simp at hk
  | cons r l ih =>
    cases k with
    | zero => simp [hscells_cons, hsrAt]
    | succ k =>
      have := ih k (by simpa using hk)
      rw [show (k + 1) * 2 = k * 2 + 2 by omega]
      simpa [hscells_cons, hsrAt] using this
theorem hscells_set (l : List Hsr) (k : Nat) (r : Hsr) : (((hscells l).set (k * 2) (.int .i64 r.turn)).set (k * 2 + 1) r.hd) = hscells (l.set k r) := by
  induction l generalizing k with
  | nil => simp [hscells]
  | cons x l ih =>
    cases k with
    | zero => simp [hscells_cons]
    | succ k =>
      rw [show (k + 1) * 2 = k * 2 + 2 by omega]
      simp only [hscells_cons, List.set_cons_succ, ← ih k]
theorem hsInfo : (Try.prog.info? 35).map (fun i => (i.zero, i.size, i.bytes)) = some (some (.agg #[.int .i64 0, .slice none 0 0]), 2, 32) := by kernel_rfl
/-- Cells that hold these. -/
def HssAt (w : World) (a : Option Addr) (l : List Hs) : Prop :=
  ∀ k, k < l.length → ∃ b off ak ck, a = some ⟨b, off, none⟩ ∧ b < w.heap.size ∧ (w.cell? ⟨b, off + k * 2, none⟩ = some (.int .i64 (hsAt l k).turn) ∧ w.cell? ⟨b, off + k * 2 + 1, none⟩ = some (.slice ak (hsAt l k).flows.length ck)) ∧ IntsAt w ak (hsAt l k).flows ∧ (hsAt l k).flows.length ≤ ck ∧ (ak = none → ck = 0)
theorem HssAt.below {w w' : World} {a : Option Addr} {l : List Hs} (h : HssAt w a l) (gr : Below w.heap.size w w') : HssAt w' a l := by
  intro k hk
  obtain ⟨b, off, ak, ck, e, hb, ⟨c0, c1⟩, hr, hl⟩ := h k hk
  exact ⟨b, off, ak, ck, e, Nat.lt_of_lt_of_le hb gr.size, ⟨by rw [gr.cell (p := ⟨b, off + k * 2, none⟩) hb]; exact c0, by rw [gr.cell (p := ⟨b, off + k * 2 + 1, none⟩) hb]; exact c1⟩, hr.below gr, hl⟩
theorem HssAt.alloc {w : World} {a : Option Addr} {l : List Hs} (h : HssAt w a l) (o : Obj) : HssAt (w.alloc o) a l := h.below ((Below.refl _ _).alloc (Nat.le_refl _) _)
theorem HssAt.drew {w : World} {a : Option Addr} {l : List Hs} (h : HssAt w a l) : HssAt w.drew a l := h.below (Below.refl _ _).drew
theorem HssAt.nil (w : World) (a : Option Addr) : HssAt w a [] := by intro k hk; simp at hk
/-- Lists of the call's own, in blocks from b up to t: no two share a cell, none shares one with the records. -/
structure HsV (b t : Nat) (w : World) (v : Value) (rs : List Hsr) (l : List Hs) : Prop where
  outer : SlIn b t w v l.length (hscells rs)
  len : rs.length = l.length
  num : ∀ i, i < l.length → (hsrAt rs i).turn = (hsAt l i).turn
  row : ∀ i, i < l.length → IntIn b t w (hsrAt rs i).hd (hsAt l i).flows
  cap : ∀ i, i < l.length → ∃ a c, (hsrAt rs i).hd = .slice a (hsAt l i).flows.length c ∧ (hsAt l i).flows.length ≤ c ∧ (a = none → c = 0)
  apart : ∀ i j k o, i < l.length → j < l.length → i ≠ j → Hits (hsrAt rs i).hd (hsAt l i).flows.length k o → ¬ Hits (hsrAt rs j).hd (hsAt l j).flows.length k o
  free : ∀ i k o, i < l.length → Hits (hsrAt rs i).hd (hsAt l i).flows.length k o → ¬ Hits v (l.length * 2) k o
/-- The same, whatever the headers. -/
def HssIn (b t : Nat) (w : World) (v : Value) (l : List Hs) : Prop := ∃ rs, HsV b t w v rs l
section
variable {b t : Nat} {w w' : World} {v : Value} {rs : List Hsr} {l : List Hs}
theorem HsV.keep (h : HsV b t w v rs l) (hs : w.heap.size ≤ w'.heap.size) (hk : ∀ k, b ≤ k → k < t → w'.heap[k]? = w.heap[k]?) : HsV b t w' v rs l :=
  ⟨h.outer.keep hs hk, h.len, h.num, fun i hi => SlIn.keep (h.row i hi) hs hk, h.cap, h.apart, h.free⟩
theorem HsV.below (h : HsV b t w v rs l) (gr : Below w.heap.size w w') : HsV b t w' v rs l :=
  ⟨h.outer.below gr, h.len, h.num, fun i hi => SlIn.below (h.row i hi) gr, h.cap, h.apart, h.free⟩
theorem HsV.wide {b' t' : Nat} (h : HsV b t w v rs l) (hb : b' ≤ b) (ht : t ≤ t') (hs : t' ≤ w.heap.size) : HsV b' t' w v rs l :=
  ⟨h.outer.wide hb ht hs, h.len, h.num, fun i hi => SlIn.wide (h.row i hi) hb ht hs, h.cap, h.apart, h.free⟩
theorem HssIn.keep (h : HssIn b t w v l) (hs : w.heap.size ≤ w'.heap.size) (hk : ∀ k, b ≤ k → k < t → w'.heap[k]? = w.heap[k]?) : HssIn b t w' v l := by
  obtain ⟨rs, h⟩ := h
  exact ⟨rs, h.keep hs hk⟩
theorem HssIn.below (h : HssIn b t w v l) (gr : Below w.heap.size w w') : HssIn b t w' v l := by
  obtain ⟨rs, h⟩ := h
  exact ⟨rs, h.below gr⟩
theorem HssIn.wide {b' t' : Nat} (h : HssIn b t w v l) (hb : b' ≤ b) (ht : t ≤ t') (hs : t' ≤ w.heap.size) : HssIn b' t' w v l := by
  obtain ⟨rs, h⟩ := h
  exact ⟨rs, h.wide hb ht hs⟩
theorem HssIn.shape (h : HssIn b t w v l) : ∃ a c, v = .slice a l.length c := by
  obtain ⟨rs, h⟩ := h
  exact h.outer.shape
theorem HsV.at {a : Option Addr} {c : Nat} (h : HsV b t w (.slice a l.length c) rs l) : HssAt w a l := by
  intro k hk
  have hl := h.len
  have hcl := hscells_length rs
  obtain ⟨g0, off, rfl, h1, h2, h3⟩ := h.outer.some (by intro e; rw [e] at hcl; simp at hcl; omega)
  obtain ⟨ak, ck, e, hc⟩ := h.cap k hk
  obtain ⟨e0, e1⟩ := hscells_get rs k (by omega)
  obtain n0 := h.num k hk
  refine ⟨g0, off, ak, ck, rfl, by omega, ⟨?_, ?_⟩, ?_, hc⟩
  · have := (h.outer.cells (k * 2) (by omega)).1
    rw [e0, Option.getD_some, n0] at this
    exact this
  · have := (h.outer.cells (k * 2 + 1) (by omega)).1
    rw [e1, Option.getD_some, e] at this
    exact this
  · have hr := h.row k hk
    rw [e] at hr
    exact IntsAt.of_in hr
theorem HssIn.at {a : Option Addr} {c : Nat} (h : HssIn b t w (.slice a l.length c) l) : HssAt w a l := by
  obtain ⟨rs, h⟩ := h
  exact h.at
/-- The numbers of one turned. -/
theorem HsV.nums (h : HsV b t w v rs l) {j : Nat} (hj : j < l.length) {r' : Hs} (hg : r'.flows = (hsAt l j).flows) (ho : SlIn b t w' v l.length (hscells (rs.set j ⟨r'.turn, (hsrAt rs j).hd⟩))) (ht : Turn (Hits v (l.length * 2)) w w') :
    HsV b t w' v (rs.set j ⟨r'.turn, (hsrAt rs j).hd⟩) (l.set j r') := by
  have hl := h.len
  have e1 : ∀ i, (hsrAt (rs.set j ⟨r'.turn, (hsrAt rs j).hd⟩) i).hd = (hsrAt rs i).hd := fun i => by
    by_cases hij : i = j
    · subst hij; rw [hsrAt_set (by omega)]
    · rw [hsrAt_other hij]
  have e2 : ∀ i, (hsAt (l.set j r') i).flows = (hsAt l i).flows := fun i => by
    by_cases hij : i = j
    · subst hij; rw [hsAt_set hj, hg]
    · rw [hsAt_other hij]
  refine ⟨by rw [List.length_set]; exact ho, by rw [List.length_set, List.length_set, hl], fun i hi => ?_, fun i hi => ?_, fun i hi => ?_, fun i k x o hi hk hne => ?_, fun i x o hi => ?_⟩
  · rw [List.length_set] at hi
    by_cases hij : i = j
    · subst hij; rw [hsrAt_set (by omega), hsAt_set hj]; try rfl
    · rw [hsrAt_other hij, hsAt_other hij]; exact h.num i hi
  · rw [List.length_set] at hi
    rw [e1, e2]
    exact SlIn.turn (h.row i hi) ht fun k o hh hx => h.free i k o hi (by simpa using hh) hx
  · rw [List.length_set] at hi
    rw [e1, e2]
    exact h.cap i hi
  · rw [List.length_set] at hi hk
    rw [e1, e1, e2, e2]
    exact h.apart i k x o hi hk hne
  · rw [List.length_set] at hi ⊢
    rw [e1, e2]
    exact h.free i x o hi
/-- The list of one turned. -/
theorem HsV.list (h : HsV b t w v rs l) {j : Nat} (hj : j < l.length) {r' : Hs} (hturn : r'.turn = (hsAt l j).turn) (hg : r'.flows.length = (hsAt l j).flows.length) (hr : IntIn b t w' (hsrAt rs j).hd r'.flows) (ht : Turn (Hits (hsrAt rs j).hd (hsAt l j).flows.length) w w') :
    HsV b t w' v rs (l.set j r') := by
  have hl := h.len
  have e2 : ∀ i, (hsAt (l.set j r') i).flows.length = (hsAt l i).flows.length := fun i => by
    by_cases hij : i = j
    · subst hij; rw [hsAt_set hj, hg]
    · rw [hsAt_other hij]
  refine ⟨?_, by rw [List.length_set, hl], fun i hi => ?_, fun i hi => ?_, fun i hi => ?_, fun i k x o hi hk hne => ?_, fun i x o hi => ?_⟩
  · rw [List.length_set]
    refine h.outer.turn ht fun k o hh hx => h.free j k o hj hx ?_
    rw [hscells_length, hl] at hh
    exact hh
  · rw [List.length_set] at hi
    by_cases hij : i = j
    · subst hij; rw [hsAt_set hj, hturn]; exact h.num i hi
    · rw [hsAt_other hij]; exact h.num i hi
  · rw [List.length_set] at hi
    by_cases hij : i = j
    · subst hij; rw [hsAt_set hj]; exact hr
    · rw [hsAt_other hij]
      exact SlIn.turn (h.row i hi) ht fun k o hh hx => h.apart i j k o hi hj hij (by simpa using hh) hx
  · rw [List.length_set] at hi
    rw [e2]
    exact h.cap i hi
  · rw [List.length_set] at hi hk
    rw [e2, e2]
    exact h.apart i k x o hi hk hne
  · rw [List.length_set] at hi ⊢
    rw [e2]
    exact h.free i x o hi
end
/-- How many numbers there are in the lists of the first i of them. -/
def hsSum (l : List Hs) (i : Nat) : Nat := ((l.take i).map fun r => r.flows.length).sum
theorem hsSum_zero (l : List Hs) : hsSum l 0 = 0 := by simp [hsSum]
theorem hsSum_succ {l : List Hs} {i : Nat} (h : i < l.length) : hsSum l (i + 1) = hsSum l i + (hsAt l i).flows.length := by
  unfold hsSum
  rw [List.take_succ_eq_append_getElem h, List.map_append, List.sum_append, hsAt_lt h]
  simp
theorem hsSum_mono {l : List Hs} {i : Nat} : ∀ {j : Nat}, i ≤ j → j ≤ l.length → hsSum l i ≤ hsSum l j := by
  intro j
  induction j with
  | zero => intro h _; rw [show i = 0 by omega]; exact Nat.le_refl _
  | succ j ih =>
    intro h hj
    by_cases e : i = j + 1
    · subst e; exact Nat.le_refl _
    · rw [hsSum_succ (by omega)]
      have := ih (by omega) (by omega)
      omega
theorem hsSum_one {l : List Hs} {i : Nat} (h : i < l.length) : (hsAt l i).flows.length ≤ hsSum l l.length := by
  have h1 := hsSum_succ h
  have h2 := hsSum_mono (l := l) (show i + 1 ≤ l.length by omega) (Nat.le_refl _)
  omega
theorem hsOwn {v : Value} {n k o : Nat} (h : Hits v n k o) : v.ownBlock = some k := by
  obtain ⟨off, n, cap, rfl, _⟩ := h
  rfl
end Go.Proofs.Ytojmghnbekneiaa

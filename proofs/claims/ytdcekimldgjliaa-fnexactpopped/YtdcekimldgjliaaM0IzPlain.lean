import Derived.Test.YtdcekimldgjliaaItPlain
import Derived.Test.YtdcekimldgjliaaSlIn
import Derived.Test.YtdcekimldgjliaaBoxed
/-
  Lists of records (Item) that lie wherever: read. By the verifier, by program.
-/
namespace Go.Proofs.Ytdcekimldgjliaa
open Go.RowKit

/-- A list of records in blocks from b up to t. -/
def ItIn (b t : Nat) (w : World) (v : Value) (l : List It) : Prop := SlIn b t w v l.length (itcells l)
theorem itcells_ne {l : List It} (h : 0 < l.length) : itcells l ≠ [] := by
  intro e
  have := itcells_length l
  rw [e] at this
  simp at this
  omega
theorem ItsAt.of_in {b t : Nat} {w : World} {a : Option Addr} {cap : Nat} {l : List It} (h : ItIn b t w (.slice a l.length cap) l) : ItsAt w a l := by
  intro k hk
  obtain ⟨g, off, rfl, h1, h2, h3⟩ := SlIn.some h (itcells_ne (by omega))
  have hl := itcells_length l
  obtain ⟨e0, e1, e2⟩ := itcells_get l k hk
  refine ⟨g, off, rfl, by omega, ?_, ?_, ?_⟩
  · have := (SlIn.cells h (k * 3) (by omega)).1
    rw [e0] at this
    exact this
  · have := (SlIn.cells h (k * 3 + 1) (by omega)).1
    rw [e1] at this
    exact this
  · have := (SlIn.cells h (k * 3 + 2) (by omega)).1
    rw [e2] at this
    exact this
theorem ItIn.of_row {b t : Nat} {w : World} {v : Value} {l : List It} (h : ItRow b w v l) (ht : ∀ k, v.ownBlock = some k → k < t) (hs : t ≤ w.heap.size) : ItIn b t w v l := SlIn.of_row h ht hs
end Go.Proofs.Ytdcekimldgjliaa

/-
  Lists of lists of records (Item): cells that hold them, memory of the call's own, sums of lengths. By the verifier, by program.
-/
namespace Go.Proofs.Ytdcekimldgjliaa
open Go.RowKit

/-- The list at a place. -/
def izAt (ls : List (List It)) (i : Nat) : List It := ls[i]?.getD []
theorem izAt_lt {ls : List (List It)} {i : Nat} (h : i < ls.length) : izAt ls i = ls[i] := by simp [izAt, List.getElem?_eq_getElem h]
/-- The header at a place. -/
def izV (vs : List Value) (i : Nat) : Value := vs[i]?.getD (.slice none 0 0)
/-- Cells that hold these. -/
def IzAt (w : World) (a : Option Addr) (ls : List (List It)) : Prop :=
  ∀ k, k < ls.length → ∃ b off ak ck, a = some ⟨b, off, none⟩ ∧ b < w.heap.size ∧ w.cell? ⟨b, off + k, none⟩ = some (.slice ak (izAt ls k).length ck) ∧ ItsAt w ak (izAt ls k) ∧ (izAt ls k).length ≤ ck ∧ (ak = none → ck = 0)
theorem IzAt.below {w w' : World} {a : Option Addr} {ls : List (List It)} (h : IzAt w a ls) (g : Below w.heap.size w w') : IzAt w' a ls := by
  intro k hk
  obtain ⟨b, off, ak, ck, e, hb, hc, hr, hl⟩ := h k hk
  exact ⟨b, off, ak, ck, e, Nat.lt_of_lt_of_le hb g.size, by rw [g.cell (p := ⟨b, off + k, none⟩) hb]; exact hc, hr.below g, hl⟩
theorem IzAt.alloc {w : World} {a : Option Addr} {ls : List (List It)} (h : IzAt w a ls) (o : Obj) : IzAt (w.alloc o) a ls := h.below ((Below.refl _ _).alloc (Nat.le_refl _) _)
theorem IzAt.drew {w : World} {a : Option Addr} {ls : List (List It)} (h : IzAt w a ls) : IzAt w.drew a ls := h.below (Below.refl _ _).drew
theorem IzAt.nil (w : World) (a : Option Addr) : IzAt w a [] := by intro k hk; simp at hk
/-- Lists of the call's own, in blocks from b up to t: no two share a cell, none shares one with the list of headers. -/
structure IzV (b t : Nat) (w : World) (v : Value) (vs : List Value) (ls : List (List It)) : Prop where
  outer : SlIn b t w v ls.length vs
  len : vs.length = ls.length
  row : ∀ i, i < ls.length → ItIn b t w (izV vs i) (izAt ls i)
  cap : ∀ i, i < ls.length → ∃ a c, izV vs i = .slice a (izAt ls i).length c ∧ (izAt ls i).length ≤ c ∧ (a = none → c = 0)
  apart : ∀ i j k o, i < ls.length → j < ls.length → i ≠ j → Hits (izV vs i) ((izAt ls i).length * 3) k o → ¬ Hits (izV vs j) ((izAt ls j).length * 3) k o
  free : ∀ i k o, i < ls.length → Hits (izV vs i) ((izAt ls i).length * 3) k o → ¬ Hits v ls.length k o
/-- The same, whatever the headers. -/
def IzIn (b t : Nat) (w : World) (v : Value) (ls : List (List It)) : Prop := ∃ vs, IzV b t w v vs ls
section
variable {b t : Nat} {w w' : World} {v : Value} {vs : List Value} {ls : List (List It)}
theorem IzV.keep (h : IzV b t w v vs ls) (hs : w.heap.size ≤ w'.heap.size) (hk : ∀ k, b ≤ k → k < t → w'.heap[k]? = w.heap[k]?) : IzV b t w' v vs ls :=
  ⟨h.outer.keep hs hk, h.len, fun i hi => SlIn.keep (h.row i hi) hs hk, h.cap, h.apart, h.free⟩
theorem IzV.below (h : IzV b t w v vs ls) (g : Below w.heap.size w w') : IzV b t w' v vs ls :=
  ⟨h.outer.below g, h.len, fun i hi => SlIn.below (h.row i hi) g, h.cap, h.apart, h.free⟩
theorem IzV.wide {b' t' : Nat} (h : IzV b t w v vs ls) (hb : b' ≤ b) (ht : t ≤ t') (hs : t' ≤ w.heap.size) : IzV b' t' w v vs ls :=
  ⟨h.outer.wide hb ht hs, h.len, fun i hi => SlIn.wide (h.row i hi) hb ht hs, h.cap, h.apart, h.free⟩
theorem IzIn.keep (h : IzIn b t w v ls) (hs : w.heap.size ≤ w'.heap.size) (hk : ∀ k, b ≤ k → k < t → w'.heap[k]? = w.heap[k]?) : IzIn b t w' v ls := by
  obtain ⟨vs, h⟩ := h
  exact ⟨vs, h.keep hs hk⟩
theorem IzIn.below (h : IzIn b t w v ls) (g : Below w.heap.size w w') : IzIn b t w' v ls := by
  obtain ⟨vs, h⟩ := h
  exact ⟨vs, h.below g⟩
theorem IzIn.wide {b' t' : Nat} (h : IzIn b t w v ls) (hb : b' ≤ b) (ht : t ≤ t') (hs : t' ≤ w.heap.size) : IzIn b' t' w v ls := by
  obtain ⟨vs, h⟩ := h
  exact ⟨vs, h.wide hb ht hs⟩
theorem IzIn.shape (h : IzIn b t w v ls) : ∃ a c, v = .slice a ls.length c := by
  obtain ⟨vs, h⟩ := h
  exact h.outer.shape
theorem IzV.at {a : Option Addr} {c : Nat} (h : IzV b t w (.slice a ls.length c) vs ls) : IzAt w a ls := by
  intro k hk
  have hl := h.len
  obtain ⟨g, off, rfl, h1, h2, h3⟩ := h.outer.some (by intro e; rw [e] at hl; simp at hl; omega)
  obtain ⟨ak, ck, e, hc⟩ := h.cap k hk
  refine ⟨g, off, ak, ck, rfl, by omega, ?_, ?_, hc⟩
  · rw [(h.outer.cells k (by omega)).1, ← e]
    unfold izV
    rw [List.getElem?_eq_getElem (by omega)]
    rfl
  · have hr := h.row k hk
    rw [e] at hr
    exact ItsAt.of_in hr
theorem IzIn.at {a : Option Addr} {c : Nat} (h : IzIn b t w (.slice a ls.length c) ls) : IzAt w a ls := by
  obtain ⟨vs, h⟩ := h
  exact h.at
end
/-- How many there are in the first i of them. -/
def izSum (ls : List (List It)) (i : Nat) : Nat := ((ls.take i).map List.length).sum
theorem izSum_zero (ls : List (List It)) : izSum ls 0 = 0 := by simp [izSum]
theorem izSum_succ {ls : List (List It)} {i : Nat} (h : i < ls.length) : izSum ls (i + 1) = izSum ls i + (izAt ls i).length := by
  unfold izSum
  rw [List.take_succ_eq_append_getElem h, List.map_append, List.sum_append, izAt_lt h]
  simp
theorem izSum_mono {ls : List (List It)} {i : Nat} : ∀ {j : Nat}, i ≤ j → j ≤ ls.length → izSum ls i ≤ izSum ls j := by
  intro j
  induction j with
  | zero => intro h _; rw [show i = 0 by omega]; exact Nat.le_refl _
  | succ j ih =>
    intro h hj
    by_cases e : i = j + 1
    · subst e; exact Nat.le_refl _
    · rw [izSum_succ (by omega)]
      have := ih (by omega) (by omega)
      omega
theorem izSum_one {ls : List (List It)} {i : Nat} (h : i < ls.length) : (izAt ls i).length ≤ izSum ls ls.length := by
  have h1 := izSum_succ h
  have h2 := izSum_mono (ls := ls) (show i + 1 ≤ ls.length by omega) (Nat.le_refl _)
  omega
theorem izOwn {v : Value} {m k o : Nat} (h : Hits v m k o) : v.ownBlock = some k := by
  obtain ⟨off, n, cap, rfl, _⟩ := h
  rfl
theorem izV_old {vs : List Value} {u : Value} {i : Nat} (h : i < vs.length) : izV (vs ++ [u]) i = izV vs i := by unfold izV; rw [List.getElem?_append_left h]
theorem izV_new {vs : List Value} {u : Value} : izV (vs ++ [u]) vs.length = u := by simp [izV]
theorem izInfo : (Try.prog.info? 50).map (fun i => (i.zero, i.size, i.bytes)) = some (some (.slice none 0 0), 1, 24) := by kernel_rfl
end Go.Proofs.Ytdcekimldgjliaa

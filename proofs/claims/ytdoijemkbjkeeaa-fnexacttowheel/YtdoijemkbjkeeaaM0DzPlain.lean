import Derived.Test.YtdoijemkbjkeeaaDuPlain
import Derived.Test.YtdoijemkbjkeeaaSlIn
import Derived.RowKit3
import Derived.Below
import Derived.WalkKit
import Derived.Laws.Rows
import Derived.Laws.Tables
/-
  Lists of records (Due) that lie wherever: read. By the verifier, by program.
-/
namespace Go.Proofs.Ytdoijemkbjkeeaa
open Go.RowKit

/-- A list of records in blocks from b up to t. -/
def DuIn (b t : Nat) (w : World) (v : Value) (l : List Du) : Prop := SlIn b t w v l.length (ducells l)
theorem ducells_ne {l : List Du} (h : 0 < l.length) : ducells l ≠ [] := by
  intro e
  have := ducells_length l
  rw [e] at this
  simp at this
  omega
theorem DusAt.of_in {b t : Nat} {w : World} {a : Option Addr} {cap : Nat} {l : List Du} (h : DuIn b t w (.slice a l.length cap) l) : DusAt w a l := by
  intro k hk
  obtain ⟨g, off, rfl, h1, h2, h3⟩ := SlIn.some h (ducells_ne (by omega))
  have hl := ducells_length l
  obtain ⟨e0, e1⟩ := ducells_get l k hk
  refine ⟨g, off, rfl, by omega, ?_, ?_⟩
  · have := (SlIn.cells h (k * 2) (by omega)).1
    rw [e0] at this
    exact this
  · have := (SlIn.cells h (k * 2 + 1) (by omega)).1
    rw [e1] at this
    exact this
theorem DuIn.of_row {b t : Nat} {w : World} {v : Value} {l : List Du} (h : DuRow b w v l) (ht : ∀ k, v.ownBlock = some k → k < t) (hs : t ≤ w.heap.size) : DuIn b t w v l := SlIn.of_row h ht hs
end Go.Proofs.Ytdoijemkbjkeeaa

/-
  A struct's block as one fact: a field put, all fields put. By the verifier.
-/
namespace Go.Proofs.Ytdoijemkbjkeeaa
open Go.RowKit

/-- A block that holds these cells. -/
def Boxed (w : World) (B : Nat) (cs : Array Value) (t : TypeId) : Prop := w.heap[B]? = some (.cells cs t)
theorem Boxed.cell {w : World} {B : Nat} {cs : Array Value} {t : TypeId} (h : Boxed w B cs t) (j : Nat) {v : Value} (hj : cs[j]? = some v) : w.cell? ⟨B, j, none⟩ = some v := by
  unfold Boxed at h
  simp [World.cell?, h, hj]
theorem Boxed.below {w w' : World} {B : Nat} {cs : Array Value} {t : TypeId} (h : Boxed w B cs t) {b : Nat} (hb : B < b) (g : Below b w w') : Boxed w' B cs t := by
  unfold Boxed; rw [g.block B hb]; exact h
theorem Boxed.new (w : World) (cs : Array Value) (t : TypeId) : Boxed (w.alloc (.cells cs t)) w.heap.size cs t := by show (w.heap.push _)[w.heap.size]? = _; simp
theorem heapLt {w : World} {k : Nat} {o : Obj} (h : w.heap[k]? = some o) : k < w.heap.size := (Array.getElem?_eq_some_iff.1 h).1
theorem Boxed.under {w : World} {k : Nat} {cs : Array Value} {t : TypeId} (x : Boxed w k cs t) : k < w.heap.size := heapLt x
theorem Boxed.put {w : World} {k : Nat} {cs : Array Value} {t : TypeId} (x : Boxed w k cs t) (j : Nat) (v : Value) : Boxed (w.setCell ⟨k, j, none⟩ v) k (cs.setIfInBounds j v) t := by
  unfold Boxed at *
  simp only [World.setCell, Array.getElem?_modify, if_true, x, Option.map_some]
  rfl
theorem Boxed.far {w : World} {k b : Nat} {cs : Array Value} {t : TypeId} (x : Boxed w k cs t) (h : k ≠ b) (j : Nat) (v : Value) : Boxed (w.setCell ⟨b, j, none⟩ v) k cs t := by
  unfold Boxed at *
  rw [Below.heap_setCell _ _ _ _ h]; exact x
theorem Boxed.ice {w : World} {B : Nat} {cs : Array Value} {t : TypeId} (h : Boxed w B cs t) (j : Nat) : w.frozen? ⟨B, j, none⟩ = false := by
  unfold Boxed at h
  simp [World.frozen?, h]
theorem Boxed.more {w : World} {B : Nat} {cs : Array Value} {t : TypeId} (h : Boxed w B cs t) (o : Obj) : Boxed (w.alloc o) B cs t := by
  unfold Boxed at *
  rw [Below.heap_alloc _ _ _ (heapLt h)]; exact h
theorem bel_two {B n : Nat} {W w w' : World} (b : Below B W w) (b' : Below B W w') (hs : w.heap.size ≤ w'.heap.size) (hk : ∀ k, k < n → w'.heap[k]? = w.heap[k]?) : Below n w w' :=
  ⟨b'.os.trans b.os.symm, b'.tape.trans b.tape.symm, b'.output.trans b.output.symm, hs, hk⟩
end Go.Proofs.Ytdoijemkbjkeeaa

/-
  Lists of lists of records (Due): cells that hold them, memory of the call's own, sums of lengths. By the verifier, by program.
-/
namespace Go.Proofs.Ytdoijemkbjkeeaa
open Go.RowKit

/-- The list at a place. -/
def dzAt (ls : List (List Du)) (i : Nat) : List Du := ls[i]?.getD []
theorem dzAt_lt {ls : List (List Du)} {i : Nat} (h : i < ls.length) : dzAt ls i = ls[i] := by simp [dzAt, List.getElem?_eq_getElem h]
/-- The header at a place. -/
def dzV (vs : List Value) (i : Nat) : Value := vs[i]?.getD (.slice none 0 0)
/-- Cells that hold these. -/
def DzAt (w : World) (a : Option Addr) (ls : List (List Du)) : Prop :=
  ∀ k, k < ls.length → ∃ b off ak ck, a = some ⟨b, off, none⟩ ∧ b < w.heap.size ∧ w.cell? ⟨b, off + k, none⟩ = some (.slice ak (dzAt ls k).length ck) ∧ DusAt w ak (dzAt ls k) ∧ (dzAt ls k).length ≤ ck ∧ (ak = none → ck = 0)
theorem DzAt.below {w w' : World} {a : Option Addr} {ls : List (List Du)} (h : DzAt w a ls) (g : Below w.heap.size w w') : DzAt w' a ls := by
  intro k hk
  obtain ⟨b, off, ak, ck, e, hb, hc, hr, hl⟩ := h k hk
  exact ⟨b, off, ak, ck, e, Nat.lt_of_lt_of_le hb g.size, by rw [g.cell (p := ⟨b, off + k, none⟩) hb]; exact hc, hr.below g, hl⟩
theorem DzAt.alloc {w : World} {a : Option Addr} {ls : List (List Du)} (h : DzAt w a ls) (o : Obj) : DzAt (w.alloc o) a ls := h.below ((Below.refl _ _).alloc (Nat.le_refl _) _)
theorem DzAt.drew {w : World} {a : Option Addr} {ls : List (List Du)} (h : DzAt w a ls) : DzAt w.drew a ls := h.below (Below.refl _ _).drew
theorem DzAt.nil (w : World) (a : Option Addr) : DzAt w a [] := by intro k hk; simp at hk
/-- Lists of the call's own, in blocks from b up to t: no two share a cell, none shares one with the list of headers. -/
structure DzV (b t : Nat) (w : World) (v : Value) (vs : List Value) (ls : List (List Du)) : Prop where
  outer : SlIn b t w v ls.length vs
  len : vs.length = ls.length
  row : ∀ i, i < ls.length → DuIn b t w (dzV vs i) (dzAt ls i)
  cap : ∀ i, i < ls.length → ∃ a c, dzV vs i = .slice a (dzAt ls i).length c ∧ (dzAt ls i).length ≤ c ∧ (a = none → c = 0)
  apart : ∀ i j k o, i < ls.length → j < ls.length → i ≠ j → Hits (dzV vs i) ((dzAt ls i).length * 2) k o → ¬ Hits (dzV vs j) ((dzAt ls j).length * 2) k o
  free : ∀ i k o, i < ls.length → Hits (dzV vs i) ((dzAt ls i).length * 2) k o → ¬ Hits v ls.length k o
/-- The same, whatever the headers. -/
def DzIn (b t : Nat) (w : World) (v : Value) (ls : List (List Du)) : Prop := ∃ vs, DzV b t w v vs ls
section
variable {b t : Nat} {w w' : World} {v : Value} {vs : List Value} {ls : List (List Du)}
theorem DzV.keep (h : DzV b t w v vs ls) (hs : w.heap.size ≤ w'.heap.size) (hk : ∀ k, b ≤ k → k < t → w'.heap[k]? = w.heap[k]?) : DzV b t w' v vs ls :=
  ⟨h.outer.keep hs hk, h.len, fun i hi => SlIn.keep (h.row i hi) hs hk, h.cap, h.apart, h.free⟩
theorem DzV.below (h : DzV b t w v vs ls) (g : Below w.heap.size w w') : DzV b t w' v vs ls :=
  ⟨h.outer.below g, h.len, fun i hi => SlIn.below (h.row i hi) g, h.cap, h.apart, h.free⟩
theorem DzV.wide {b' t' : Nat} (h : DzV b t w v vs ls) (hb : b' ≤ b) (ht : t ≤ t') (hs : t' ≤ w.heap.size) : DzV b' t' w v vs ls :=
  ⟨h.outer.wide hb ht hs, h.len, fun i hi => SlIn.wide (h.row i hi) hb ht hs, h.cap, h.apart, h.free⟩
theorem DzIn.keep (h : DzIn b t w v ls) (hs : w.heap.size ≤ w'.heap.size) (hk : ∀ k, b ≤ k → k < t → w'.heap[k]? = w.heap[k]?) : DzIn b t w' v ls := by
  obtain ⟨vs, h⟩ := h
  exact ⟨vs, h.keep hs hk⟩
theorem DzIn.below (h : DzIn b t w v ls) (g : Below w.heap.size w w') : DzIn b t w' v ls := by
  obtain ⟨vs, h⟩ := h
  exact ⟨vs, h.below g⟩
theorem DzIn.wide {b' t' : Nat} (h : DzIn b t w v ls) (hb : b' ≤ b) (ht : t ≤ t') (hs : t' ≤ w.heap.size) : DzIn b' t' w v ls := by
  obtain ⟨vs, h⟩ := h
  exact ⟨vs, h.wide hb ht hs⟩
theorem DzIn.shape (h : DzIn b t w v ls) : ∃ a c, v = .slice a ls.length c := by
  obtain ⟨vs, h⟩ := h
  exact h.outer.shape
theorem DzV.at {a : Option Addr} {c : Nat} (h : DzV b t w (.slice a ls.length c) vs ls) : DzAt w a ls := by
  intro k hk
  have hl := h.len
  obtain ⟨g, off, rfl, h1, h2, h3⟩ := h.outer.some (by intro e; rw [e] at hl; simp at hl; omega)
  obtain ⟨ak, ck, e, hc⟩ := h.cap k hk
  refine ⟨g, off, ak, ck, rfl, by omega, ?_, ?_, hc⟩
  · rw [(h.outer.cells k (by omega)).1, ← e]
    unfold dzV
    rw [List.getElem?_eq_getElem (by omega)]
    rfl
  · have hr := h.row k hk
    rw [e] at hr
    exact DusAt.of_in hr
theorem DzIn.at {a : Option Addr} {c : Nat} (h : DzIn b t w (.slice a ls.length c) ls) : DzAt w a ls := by
  obtain ⟨vs, h⟩ := h
  exact h.at
end
/-- How many there are in the first i of them. -/
def dzSum (ls : List (List Du)) (i : Nat) : Nat := ((ls.take i).map List.length).sum
theorem dzSum_zero (ls : List (List Du)) : dzSum ls 0 = 0 := by simp [dzSum]
theorem dzSum_succ {ls : List (List Du)} {i : Nat} (h : i < ls.length) : dzSum ls (i + 1) = dzSum ls i + (dzAt ls i).length := by
  unfold dzSum
  rw [List.take_succ_eq_append_getElem h, List.map_append, List.sum_append, dzAt_lt h]
  simp
theorem dzSum_mono {ls : List (List Du)} {i : Nat} : ∀ {j : Nat}, i ≤ j → j ≤ ls.length → dzSum ls i ≤ dzSum ls j := by
  intro j
  induction j with
  | zero => intro h _; rw [show i = 0 by omega]; exact Nat.le_refl _
  | succ j ih =>
    intro h hj
    by_cases e : i = j + 1
    · subst e; exact Nat.le_refl _
    · rw [dzSum_succ (by omega)]
      have := ih (by omega) (by omega)
      omega
theorem dzSum_one {ls : List (List Du)} {i : Nat} (h : i < ls.length) : (dzAt ls i).length ≤ dzSum ls ls.length := by
  have h1 := dzSum_succ h
  have h2 := dzSum_mono (ls := ls) (show i + 1 ≤ ls.length by omega) (Nat.le_refl _)
  omega
theorem dzOwn {v : Value} {m k o : Nat} (h : Hits v m k o) : v.ownBlock = some k := by
  obtain ⟨off, n, cap, rfl, _⟩ := h
  rfl
theorem dzV_old {vs : List Value} {u : Value} {i : Nat} (h : i < vs.length) : dzV (vs ++ [u]) i = dzV vs i := by unfold dzV; rw [List.getElem?_append_left h]
theorem dzV_new {vs : List Value} {u : Value} : dzV (vs ++ [u]) vs.length = u := by simp [dzV]
theorem dzInfo : (Try.prog.info? 42).map (fun i => (i.zero, i.size, i.bytes)) = some (some (.slice none 0 0), 1, 24) := by kernel_rfl
end Go.Proofs.Ytdoijemkbjkeeaa

import Derived.Test.YtfkkmjejmflgjaaRows
import Derived.WalkKit
import Derived.WalkSpells
import Derived.WalkLawsBesides
import Derived.RowKit3
import Derived.Test.YtfkkmjejmflgjaaQ0SrPlain
import Derived.Laws.AppendOwn
import Derived.Laws.OwnMore
import Derived.Laws.AppendOwnNone
import Derived.Lib.SliceRun
import Derived.Test.YtfkkmjejmflgjaaQ2SsV
import Derived.Below
import Derived.Laws.MakeOwn
/-
  Lists of numbers of the call's own. By the verifier.
-/
namespace Go.Proofs.Ytfkkmjejmflgjaa
open Go.RowKit

theorem heapLt' {w : World} {k : Nat} {o : Obj} (h : w.heap[k]? = some o) : k < w.heap.size := (Array.getElem?_eq_some_iff.1 h).1
/-- A list of numbers of the call's own. -/
def IRow (base : Nat) (w : World) (v : Value) (T : List Int) : Prop := w.ownsRow base 2 1 v T.length (T.map (Value.int .i64))
theorem IRow.carry {base : Nat} {w w' : World} {v : Value} {T : List Int} (h : IRow base w v T) (g : ∀ k, base ≤ k → k < w.heap.size → w'.heap[k]? = w.heap[k]?) : IRow base w' v T := by
  refine ⟨h.1, h.2.imp id ?_⟩
  rintro ⟨g0, cap, cur, h1, h2, h3, h4⟩
  exact ⟨g0, cap, cur, h1, h2, by rw [g g0 h2 (heapLt' h3)]; exact h3, h4⟩
theorem IRow.shape {base : Nat} {w : World} {v : Value} {T : List Int} (h : IRow base w v T) : ∃ a cap, v = .slice a T.length cap := by
  rcases h.2 with ⟨rfl, hn⟩ | ⟨g, cap, cur, rfl, _⟩
  · rw [hn]; exact ⟨none, 0, rfl⟩
  · exact ⟨_, _, rfl⟩
theorem IRow.ints {base : Nat} {w : World} {a : Option Addr} {cap : Nat} {T : List Int} (h : IRow base w (.slice a T.length cap) T) : IntsAt w a T := by
  intro k hk
  rcases h.2 with ⟨_, hn⟩ | ⟨g, cap', cur, e, h2, h3, h4⟩
  · omega
  · obtain ⟨rfl, _, rfl⟩ : a = some ⟨g, 0, none⟩ ∧ True ∧ cap = cap' := by simpa using e
    have hc := World.ownsRow.cellAt (show w.ownsRow base 2 1 (.slice (some ⟨g, 0, none⟩) T.length cap) T.length _ from h) k (by omega)
    exact ⟨g, 0, rfl, heapLt' h3, by rw [Nat.zero_add, hc]; simp [List.getElem?_eq_getElem hk]⟩

theorem IRow.mono {base base' : Nat} {w : World} {v : Value} {xs : List Int} (h : IRow base w v xs) (hb : base' ≤ base) : IRow base' w v xs := ⟨h.1, h.2.imp id fun ⟨g, cap, cur, h1, h2, h3⟩ => ⟨g, cap, cur, h1, Nat.le_trans hb h2, h3⟩⟩
theorem info2' : (Try.prog.info? 2).map (fun i => (i.zero, i.size, i.bytes)) = some (some (.int .i64 0), 1, 8) := by kernel_rfl
theorem IRow.block {base : Nat} {w : World} {v : Value} {xs : List Int} (h : IRow base w v xs) : ∀ k, v.ownBlock = some k → base ≤ k := fun k hk => (World.ownsRow.lt h k hk).1
/-- One number more, behind a list of the call's own. -/
theorem row_iapp1 {ops : Array Oper} {rest : List Oper} {o : Oper} {a : Act} {Q : Exit → Act → World → Prop} {w : World} (hgd : o.guard = none) (s x : Operand)
    (ho : o.op = .call { callee := .builtin .append, args := #[s, x], argTypes := #[25, 25] })
    (base : Nat) (v : Value) (xs : List Int) (y : Int) (hs : a.eval s = v) (hrow : IRow base w v xs) (hx : a.eval x = .slice (some ⟨w.heap.size, 0, none⟩) 1 1)
    (hlen : xs.length ≤ 1000000) (hb : base ≤ w.heap.size)
    (h : ∀ v' w', IRow base w' v' (xs ++ [y]) → Below base w w' → wpList Try.prog ops Q rest (a.put o.dst v') w') :
    wpList Try.prog ops Q (o :: rest) a (w.alloc (.cells #[.int .i64 y] 2)) := by
  obtain ⟨i0, hi, hz0, hz1, hz2⟩ := info_parts info2'
  refine wpList_append_own _ hgd s x 25 ho base 2 i0 (.int .i64 0) 1 8 Try.underlying25 hi hz0 hz1 hz2 rfl (by decide) _ _ _ hs (World.ownsRow.alloc hrow _) ⟨w.heap.size, 0, none⟩ 1 1 [.int .i64 y] hx rfl ?_ ?_ ?_ ?_ ?_ ?_
  · intro j u hj
    match j, hj with
    | 0, hj => simp at hj; subst hj; simp [Addr.add]
  · intro u hu; simp at hu; subst hu; rfl
  · unfold maxLen; omega
  · omega
  · simp; omega
  · intro v' w' h1 h2 _
    refine h v' w' ?_ ?_
    · unfold IRow
      rw [List.length_append, List.map_append]
      exact h1
    · exact ((Below.refl base w).alloc hb _).grown h2 (by simp; omega) (fun k hk => IRow.block hrow k hk)
theorem IRow.below {base n : Nat} {w w' : World} {v : Value} {l : List Int} (h : IRow base w v l) (hn : ∀ k, v.ownBlock = some k → k < n) (g : Below n w w') : IRow base w' v l := by
  refine ⟨h.1, h.2.imp id ?_⟩
  rintro ⟨g0, cap, cur, h1, h2, h3, h4⟩
  exact ⟨g0, cap, cur, h1, h2, by rw [g.block g0 (hn g0 (by rw [h1]; rfl))]; exact h3, h4⟩
theorem IRow.lt {base : Nat} {w : World} {v : Value} {l : List Int} (h : IRow base w v l) : ∀ k, v.ownBlock = some k → base ≤ k ∧ k < w.heap.size := World.ownsRow.lt h
theorem IRow.alloc {base : Nat} {w : World} {v : Value} {l : List Int} (h : IRow base w v l) (o : Obj) : IRow base (w.alloc o) v l := World.ownsRow.alloc h o
theorem irow_built (w : World) (base : Nat) (hb : base ≤ w.heap.size) : IRow base (w.alloc (.cells #[] 2)) (.slice (some ⟨w.heap.size, 0, none⟩) 0 0) [] :=
  ⟨rfl, .inr ⟨w.heap.size, 0, #[], rfl, hb, by show (w.heap.push _)[w.heap.size]? = _; simp, Nat.le_refl _, by decide, rfl, rfl⟩⟩
theorem IRow.none {base : Nat} {w : World} {a : Option Addr} {n cap : Nat} {l : List Int} (h : IRow base w (.slice a n cap) l) : a = .none → cap = 0 := by
  rintro rfl
  rcases h.2 with ⟨e, _⟩ | ⟨g, cap', cur, e, _⟩
  · cases e; rfl
  · cases e
end Go.Proofs.Ytfkkmjejmflgjaa

/-
  Lists of numbers that lie wherever. By the verifier.
-/
namespace Go.Proofs.Ytfkkmjejmflgjaa
open Go.RowKit

/-- A list of numbers in blocks from b up to t. -/
def IntIn (b t : Nat) (w : World) (v : Value) (l : List Int) : Prop := SlIn b t w v l.length (l.map (Value.int .i64))
theorem IntsAt.of_in {b t : Nat} {w : World} {a : Option Addr} {cap : Nat} {l : List Int} (h : IntIn b t w (.slice a l.length cap) l) : IntsAt w a l := by
  intro k hk
  obtain ⟨g, off, rfl, h1, h2, h3⟩ := SlIn.some h (by intro e; rw [List.map_eq_nil_iff] at e; subst e; simp at hk)
  refine ⟨g, off, rfl, by omega, ?_⟩
  have := (SlIn.cells h k (by simpa using hk)).1
  rw [this, List.getElem?_map, List.getElem?_eq_getElem hk]
  rfl
theorem IntIn.of_row {b t : Nat} {w : World} {v : Value} {l : List Int} (h : IRow b w v l) (ht : ∀ k, v.ownBlock = some k → k < t) (hs : t ≤ w.heap.size) : IntIn b t w v l := SlIn.of_row h ht hs
end Go.Proofs.Ytfkkmjejmflgjaa

/-
  Lists of numbers as values, with memory of their own or not. By the verifier.
-/
namespace Go.Proofs.Ytfkkmjejmflgjaa
open Go.RowKit

def IntsV (w : World) (v : Value) (l : List Int) : Prop := ∃ a c, v = .slice a l.length c ∧ IntsAt w a l ∧ l.length ≤ c ∧ (a = none → c = 0)
def IntsW (b t : Nat) (w : World) (v : Value) (l : List Int) : Prop := IntIn b t w v l ∧ ∃ a c, v = .slice a l.length c ∧ l.length ≤ c ∧ (a = none → c = 0)
section
variable {b t : Nat} {w w' : World} {v : Value} {l : List Int}
theorem IntsW.at (h : IntsW b t w v l) : IntsV w v l := by
  obtain ⟨h1, a, c, rfl, h2⟩ := h
  exact ⟨a, c, rfl, IntsAt.of_in h1, h2⟩
theorem IntsV.below (h : IntsV w v l) (g : Below w.heap.size w w') : IntsV w' v l := by
  obtain ⟨a, c, e, h1, h2⟩ := h
  exact ⟨a, c, e, h1.below g, h2⟩
theorem IntsW.keep (h : IntsW b t w v l) (hs : w.heap.size ≤ w'.heap.size) (hk : ∀ k, b ≤ k → k < t → w'.heap[k]? = w.heap[k]?) : IntsW b t w' v l := ⟨SlIn.keep h.1 hs hk, h.2⟩
theorem IntsW.below (h : IntsW b t w v l) (g : Below w.heap.size w w') : IntsW b t w' v l := ⟨SlIn.below h.1 g, h.2⟩
theorem IntsW.cells (h : IntsW b t w v l) : ∃ p q, v = .slice p l.length q := by
  obtain ⟨_, a, c, e, _⟩ := h
  exact ⟨a, c, e⟩
theorem IntsW.of_row (h : IRow b w v l) : IntsW b w.heap.size w v l := by
  refine ⟨IntIn.of_row h (fun k hk => (World.ownsRow.lt h k hk).2) (Nat.le_refl _), ?_⟩
  obtain ⟨a, c, e⟩ := h.shape
  subst e
  refine ⟨a, c, rfl, ?_, h.none⟩
  rcases h.2 with ⟨e, hn⟩ | ⟨g', c', cur, e, _, _, h4, _⟩
  · omega
  · cases e; exact h4
end
end Go.Proofs.Ytfkkmjejmflgjaa

/-
  Lists of records of 2 number(s) and a list of numbers (Flow): cells that hold them, memory of the call's own, sums of lengths. By the verifier, by program.
-/
namespace Go.Proofs.Ytfkkmjejmflgjaa
open Go.RowKit

structure Fw where
  weight : Int
  finish : Int
  sizes : List Int
/-- As a value. -/
def Fw.val (r : Fw) (a : Option Addr) (c : Nat) : Value := .agg #[.int .i64 r.weight, .int .i64 r.finish, .slice a r.sizes.length c]
/-- The one at a place. -/
def fwAt (l : List Fw) (i : Nat) : Fw := l[i]?.getD ⟨0, 0, []⟩
theorem fwAt_lt {l : List Fw} {i : Nat} (h : i < l.length) : fwAt l i = l[i] := by simp [fwAt, List.getElem?_eq_getElem h]
theorem fwAt_set {l : List Fw} {r : Fw} {j : Nat} (h : j < l.length) : fwAt (l.set j r) j = r := by simp [fwAt, h]
theorem fwAt_other {l : List Fw} {r : Fw} {i j : Nat} (h : i ≠ j) : fwAt (l.set j r) i = fwAt l i := by unfold fwAt; rw [List.getElem?_set_ne (fun e => h e.symm)]
theorem fwAt_old {l : List Fw} {r : Fw} {i : Nat} (h : i < l.length) : fwAt (l ++ [r]) i = fwAt l i := by unfold fwAt; rw [List.getElem?_append_left h]
theorem fwAt_new {l : List Fw} {r : Fw} : fwAt (l ++ [r]) l.length = r := by simp [fwAt]
/-- As it lies: its numbers and the header of its list. -/
structure Fwr where
  weight : Int
  finish : Int
  hd : Value
def Fwr.cells (r : Fwr) : List Value := [.int .i64 r.weight, .int .i64 r.finish, r.hd]
def fwrAt (l : List Fwr) (i : Nat) : Fwr := l[i]?.getD ⟨0, 0, .slice none 0 0⟩
theorem fwrAt_lt {l : List Fwr} {i : Nat} (h : i < l.length) : fwrAt l i = l[i] := by simp [fwrAt, List.getElem?_eq_getElem h]
theorem fwrAt_set {l : List Fwr} {r : Fwr} {j : Nat} (h : j < l.length) : fwrAt (l.set j r) j = r := by simp [fwrAt, h]
theorem fwrAt_other {l : List Fwr} {r : Fwr} {i j : Nat} (h : i ≠ j) : fwrAt (l.set j r) i = fwrAt l i := by unfold fwrAt; rw [List.getElem?_set_ne (fun e => h e.symm)]
theorem fwrAt_old {l : List Fwr} {r : Fwr} {i : Nat} (h : i < l.length) : fwrAt (l ++ [r]) i = fwrAt l i := by unfold fwrAt; rw [List.getElem?_append_left h]
theorem fwrAt_new {l : List Fwr} {r : Fwr} : fwrAt (l ++ [r]) l.length = r := by simp [fwrAt]
/-- The cells of a list. -/
def fwcells (l : List Fwr) : List Value := l.flatMap Fwr.cells
theorem fwcells_cons (r : Fwr) (l : List Fwr) : fwcells (r :: l) = .int .i64 r.weight :: .int .i64 r.finish :: r.hd :: fwcells l := rfl
theorem fwcells_append (a b : List Fwr) : fwcells (a ++ b) = fwcells a ++ fwcells b := by simp [fwcells]
theorem fwcells_length (l : List Fwr) : (fwcells l).length = l.length * 3 := by
  induction l with
  | nil => rfl
  | cons r l ih => rw [fwcells_cons]; simp [ih]; omega
theorem fwcells_get (l : List Fwr) (k : Nat) (hk : k < l.length) : (fwcells l)[k * 3]? = some (.int .i64 (fwrAt l k).weight) ∧ (fwcells l)[k * 3 + 1]? = some (.int .i64 (fwrAt l k).finish) ∧ (fwcells l)[k * 3 + 2]? = some (fwrAt l k).hd := by
  induction l generalizing k with
  | nil => simp at hk
  | cons r l ih =>
    cases k with
    | zero => simp [fwcells_cons, fwrAt]
    | succ k =>
      have := ih k (by simpa using hk)
      rw [show (k + 1) * 3 = k * 3 + 3 by omega]
      simpa [fwcells_cons, fwrAt] using this
theorem fwcells_set (l : List Fwr) (k : Nat) (r : Fwr) : ((((fwcells l).set (k * 3) (.int .i64 r.weight)).set (k * 3 + 1) (.int .i64 r.finish)).set (k * 3 + 2) r.hd) = fwcells (l.set k r) := by
  induction l generalizing k with
  | nil => simp [fwcells]
  | cons x l ih =>
    cases k with
    | zero => simp [fwcells_cons]
    | succ k =>
      rw [show (k + 1) * 3 = k * 3 + 3 by omega]
      simp only [fwcells_cons, List.set_cons_succ, ← ih k]
theorem fwInfo : (Try.prog.info? 55).map (fun i => (i.zero, i.size, i.bytes)) = some (some (.agg #[.int .i64 0, .int .i64 0, .slice none 0 0]), 3, 40) := by kernel_rfl
/-- Cells that hold these. -/
def FwsAt (w : World) (a : Option Addr) (l : List Fw) : Prop :=
  ∀ k, k < l.length → ∃ b off ak ck, a = some ⟨b, off, none⟩ ∧ b < w.heap.size ∧ (w.cell? ⟨b, off + k * 3, none⟩ = some (.int .i64 (fwAt l k).weight) ∧ w.cell? ⟨b, off + k * 3 + 1, none⟩ = some (.int .i64 (fwAt l k).finish) ∧ w.cell? ⟨b, off + k * 3 + 2, none⟩ = some (.slice ak (fwAt l k).sizes.length ck)) ∧ IntsAt w ak (fwAt l k).sizes ∧ (fwAt l k).sizes.length ≤ ck ∧ (ak = none → ck = 0)
theorem FwsAt.below {w w' : World} {a : Option Addr} {l : List Fw} (h : FwsAt w a l) (gr : Below w.heap.size w w') : FwsAt w' a l := by
  intro k hk
  obtain ⟨b, off, ak, ck, e, hb, ⟨c0, c1, c2⟩, hr, hl⟩ := h k hk
  exact ⟨b, off, ak, ck, e, Nat.lt_of_lt_of_le hb gr.size, ⟨by rw [gr.cell (p := ⟨b, off + k * 3, none⟩) hb]; exact c0, by rw [gr.cell (p := ⟨b, off + k * 3 + 1, none⟩) hb]; exact c1, by rw [gr.cell (p := ⟨b, off + k * 3 + 2, none⟩) hb]; exact c2⟩, hr.below gr, hl⟩
theorem FwsAt.alloc {w : World} {a : Option Addr} {l : List Fw} (h : FwsAt w a l) (o : Obj) : FwsAt (w.alloc o) a l := h.below ((Below.refl _ _).alloc (Nat.le_refl _) _)
theorem FwsAt.drew {w : World} {a : Option Addr} {l : List Fw} (h : FwsAt w a l) : FwsAt w.drew a l := h.below (Below.refl _ _).drew
theorem FwsAt.nil (w : World) (a : Option Addr) : FwsAt w a [] := by intro k hk; simp at hk
/-- Lists of the call's own, in blocks from b up to t: no two share a cell, none shares one with the records. -/
structure FwV (b t : Nat) (w : World) (v : Value) (rs : List Fwr) (l : List Fw) : Prop where
  outer : SlIn b t w v l.length (fwcells rs)
  len : rs.length = l.length
  num : ∀ i, i < l.length → (fwrAt rs i).weight = (fwAt l i).weight ∧ (fwrAt rs i).finish = (fwAt l i).finish
  row : ∀ i, i < l.length → IntIn b t w (fwrAt rs i).hd (fwAt l i).sizes
  cap : ∀ i, i < l.length → ∃ a c, (fwrAt rs i).hd = .slice a (fwAt l i).sizes.length c ∧ (fwAt l i).sizes.length ≤ c ∧ (a = none → c = 0)
  apart : ∀ i j k o, i < l.length → j < l.length → i ≠ j → Hits (fwrAt rs i).hd (fwAt l i).sizes.length k o → ¬ Hits (fwrAt rs j).hd (fwAt l j).sizes.length k o
  free : ∀ i k o, i < l.length → Hits (fwrAt rs i).hd (fwAt l i).sizes.length k o → ¬ Hits v (l.length * 3) k o
/-- The same, whatever the headers. -/
def FwsIn (b t : Nat) (w : World) (v : Value) (l : List Fw) : Prop := ∃ rs, FwV b t w v rs l
section
variable {b t : Nat} {w w' : World} {v : Value} {rs : List Fwr} {l : List Fw}
theorem FwV.keep (h : FwV b t w v rs l) (hs : w.heap.size ≤ w'.heap.size) (hk : ∀ k, b ≤ k → k < t → w'.heap[k]? = w.heap[k]?) : FwV b t w' v rs l :=
  ⟨h.outer.keep hs hk, h.len, h.num, fun i hi => SlIn.keep (h.row i hi) hs hk, h.cap, h.apart, h.free⟩
theorem FwV.below (h : FwV b t w v rs l) (gr : Below w.heap.size w w') : FwV b t w' v rs l :=
  ⟨h.outer.below gr, h.len, h.num, fun i hi => SlIn.below (h.row i hi) gr, h.cap, h.apart, h.free⟩
theorem FwV.wide {b' t' : Nat} (h : FwV b t w v rs l) (hb : b' ≤ b) (ht : t ≤ t') (hs : t' ≤ w.heap.size) : FwV b' t' w v rs l :=
  ⟨h.outer.wide hb ht hs, h.len, h.num, fun i hi => SlIn.wide (h.row i hi) hb ht hs, h.cap, h.apart, h.free⟩
theorem FwsIn.keep (h : FwsIn b t w v l) (hs : w.heap.size ≤ w'.heap.size) (hk : ∀ k, b ≤ k → k < t → w'.heap[k]? = w.heap[k]?) : FwsIn b t w' v l := by
  obtain ⟨rs, h⟩ := h
  exact ⟨rs, h.keep hs hk⟩
theorem FwsIn.below (h : FwsIn b t w v l) (gr : Below w.heap.size w w') : FwsIn b t w' v l := by
  obtain ⟨rs, h⟩ := h
  exact ⟨rs, h.below gr⟩
theorem FwsIn.wide {b' t' : Nat} (h : FwsIn b t w v l) (hb : b' ≤ b) (ht : t ≤ t') (hs : t' ≤ w.heap.size) : FwsIn b' t' w v l := by
  obtain ⟨rs, h⟩ := h
  exact ⟨rs, h.wide hb ht hs⟩
theorem FwsIn.shape (h : FwsIn b t w v l) : ∃ a c, v = .slice a l.length c := by
  obtain ⟨rs, h⟩ := h
  exact h.outer.shape
theorem FwV.at {a : Option Addr} {c : Nat} (h : FwV b t w (.slice a l.length c) rs l) : FwsAt w a l := by
  intro k hk
  have hl := h.len
  have hcl := fwcells_length rs
  obtain ⟨g0, off, rfl, h1, h2, h3⟩ := h.outer.some (by intro e; rw [e] at hcl; simp at hcl; omega)
  obtain ⟨ak, ck, e, hc⟩ := h.cap k hk
  obtain ⟨e0, e1, e2⟩ := fwcells_get rs k (by omega)
  obtain ⟨n0, n1⟩ := h.num k hk
  refine ⟨g0, off, ak, ck, rfl, by omega, ⟨?_, ?_, ?_⟩, ?_, hc⟩
  · have := (h.outer.cells (k * 3) (by omega)).1
    rw [e0, Option.getD_some, n0] at this
    exact this
  · have := (h.outer.cells (k * 3 + 1) (by omega)).1
    rw [e1, Option.getD_some, n1] at this
    exact this
  · have := (h.outer.cells (k * 3 + 2) (by omega)).1
    rw [e2, Option.getD_some, e] at this
    exact this
  · have hr := h.row k hk
    rw [e] at hr
    exact IntsAt.of_in hr
theorem FwsIn.at {a : Option Addr} {c : Nat} (h : FwsIn b t w (.slice a l.length c) l) : FwsAt w a l := by
  obtain ⟨rs, h⟩ := h
  exact h.at
/-- The numbers of one turned. -/
theorem FwV.nums (h : FwV b t w v rs l) {j : Nat} (hj : j < l.length) {r' : Fw} (hg : r'.sizes = (fwAt l j).sizes) (ho : SlIn b t w' v l.length (fwcells (rs.set j ⟨r'.weight, r'.finish, (fwrAt rs j).hd⟩))) (ht : Turn (Hits v (l.length * 3)) w w') :
    FwV b t w' v (rs.set j ⟨r'.weight, r'.finish, (fwrAt rs j).hd⟩) (l.set j r') := by
  have hl := h.len
  have e1 : ∀ i, (fwrAt (rs.set j ⟨r'.weight, r'.finish, (fwrAt rs j).hd⟩) i).hd = (fwrAt rs i).hd := fun i => by
    by_cases hij : i = j
    · subst hij; rw [fwrAt_set (by omega)]
    · rw [fwrAt_other hij]
  have e2 : ∀ i, (fwAt (l.set j r') i).sizes = (fwAt l i).sizes := fun i => by
    by_cases hij : i = j
    · subst hij; rw [fwAt_set hj, hg]
    · rw [fwAt_other hij]
  refine ⟨by rw [List.length_set]; exact ho, by rw [List.length_set, List.length_set, hl], fun i hi => ?_, fun i hi => ?_, fun i hi => ?_, fun i k x o hi hk hne => ?_, fun i x o hi => ?_⟩
  · rw [List.length_set] at hi
    by_cases hij : i = j
    · subst hij; rw [fwrAt_set (by omega), fwAt_set hj]; exact ⟨rfl, rfl⟩
    · rw [fwrAt_other hij, fwAt_other hij]; exact h.num i hi
  · rw [List.length_set] at hi
    rw [e1, e2]
    exact SlIn.turn (h.row i hi) ht fun k o hh hx => h.free i k o hi (by simpa using hh) hx
  · rw [List.length_set] at hi
    rw [e1, e2]
    exact h.cap i hi
  · rw [List.length_set] at hi hk
    rw [e1, e1, e2, e2]
    exact h.apart i k x o hi hk hne
  · rw [List.length_set] at hi ⊢
    rw [e1, e2]
    exact h.free i x o hi
/-- The list of one turned. -/
theorem FwV.list (h : FwV b t w v rs l) {j : Nat} (hj : j < l.length) {r' : Fw} (hweight : r'.weight = (fwAt l j).weight) ( hfinish : r'.finish = (fwAt l j).finish) (hg : r'.sizes.length = (fwAt l j).sizes.length) (hr : IntIn b t w' (fwrAt rs j).hd r'.sizes) (ht : Turn (Hits (fwrAt rs j).hd (fwAt l j).sizes.length) w w') :
    FwV b t w' v rs (l.set j r') := by
  have hl := h.len
  have e2 : ∀ i, (fwAt (l.set j r') i).sizes.length = (fwAt l i).sizes.length := fun i => by
    by_cases hij : i = j
    · subst hij; rw [fwAt_set hj, hg]
    · rw [fwAt_other hij]
  refine ⟨?_, by rw [List.length_set, hl], fun i hi => ?_, fun i hi => ?_, fun i hi => ?_, fun i k x o hi hk hne => ?_, fun i x o hi => ?_⟩
  · rw [List.length_set]
    refine h.outer.turn ht fun k o hh hx => h.free j k o hj hx ?_
    rw [fwcells_length, hl] at hh
    exact hh
  · rw [List.length_set] at hi
    by_cases hij : i = j
    · subst hij; rw [fwAt_set hj, hweight, hfinish]; exact h.num i hi
    · rw [fwAt_other hij]; exact h.num i hi
  · rw [List.length_set] at hi
    by_cases hij : i = j
    · subst hij; rw [fwAt_set hj]; exact hr
    · rw [fwAt_other hij]
      exact SlIn.turn (h.row i hi) ht fun k o hh hx => h.apart i j k o hi hj hij (by simpa using hh) hx
  · rw [List.length_set] at hi
    rw [e2]
    exact h.cap i hi
  · rw [List.length_set] at hi hk
    rw [e2, e2]
    exact h.apart i k x o hi hk hne
  · rw [List.length_set] at hi ⊢
    rw [e2]
    exact h.free i x o hi
end
/-- How many numbers there are in the lists of the first i of them. -/
def fwSum (l : List Fw) (i : Nat) : Nat := ((l.take i).map fun r => r.sizes.length).sum
theorem fwSum_zero (l : List Fw) : fwSum l 0 = 0 := by simp [fwSum]
theorem fwSum_succ {l : List Fw} {i : Nat} (h : i < l.length) : fwSum l (i + 1) = fwSum l i + (fwAt l i).sizes.length := by
  unfold fwSum
  rw [List.take_succ_eq_append_getElem h, List.map_append, List.sum_append, fwAt_lt h]
  simp
theorem fwSum_mono {l : List Fw} {i : Nat} : ∀ {j : Nat}, i ≤ j → j ≤ l.length → fwSum l i ≤ fwSum l j := by
  intro j
  induction j with
  | zero => intro h _; rw [show i = 0 by omega]; exact Nat.le_refl _
  | succ j ih =>
    intro h hj
    by_cases e : i = j + 1
    · subst e; exact Nat.le_refl _
    · rw [fwSum_succ (by omega)]
      have := ih (by omega) (by omega)
      omega
theorem fwSum_one {l : List Fw} {i : Nat} (h : i < l.length) : (fwAt l i).sizes.length ≤ fwSum l l.length := by
  have h1 := fwSum_succ h
  have h2 := fwSum_mono (l := l) (show i + 1 ≤ l.length by omega) (Nat.le_refl _)
  omega
theorem fwOwn {v : Value} {n k o : Nat} (h : Hits v n k o) : v.ownBlock = some k := by
  obtain ⟨off, n, cap, rfl, _⟩ := h
  rfl
end Go.Proofs.Ytfkkmjejmflgjaa

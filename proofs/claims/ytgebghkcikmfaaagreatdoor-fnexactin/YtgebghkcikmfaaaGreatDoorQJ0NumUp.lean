import Derived.RowKit3
import Derived.Below
import Derived.Laws.AppendOwn
import Derived.Laws.OwnMore
import Derived.WalkKit
import Derived.Laws.Rows
import Derived.Laws.Tables
import Derived.Laws.MakeOwn
import Derived.Test.YtgebghkcikmfaaaGreatDoorRows
import Derived.Deep.QuietTactic
import Derived.Laws.AppendOwnNone
import Derived.Lib.SliceRun
import Derived.WalkSpells
import Derived.WalkLawsBesides
import Derived.Handy
import Derived.Deep.RegionLaw
/-
  Cells of a list that lie between two places of memory, whatever the block and wherever in it: read, put, kept, turned. By the verifier.
-/
namespace Go.Proofs.YtgebghkcikmfaaaGreatDoor
open Go.RowKit

/-- Cells that hold these values and may be written. -/
def CellsAt (w : World) (g off : Nat) (xs : List Value) : Prop :=
  ∀ j, j < xs.length → w.cell? ⟨g, off + j, none⟩ = some (xs[j]?.getD undef) ∧ w.frozen? ⟨g, off + j, none⟩ = false
/-- A list of n whose cells are xs, in blocks from b up to t. -/
def SlIn (b t : Nat) (w : World) (v : Value) (n : Nat) (xs : List Value) : Prop :=
  ∃ a cap, v = .slice a n cap ∧ (xs ≠ [] → ∃ g off, a = some ⟨g, off, none⟩ ∧ b ≤ g ∧ g < t ∧ t ≤ w.heap.size ∧ CellsAt w g off xs)
/-- A cell of the first m of a list. -/
def Hits (v : Value) (m k o : Nat) : Prop := ∃ off n cap, v = .slice (some ⟨k, off, none⟩) n cap ∧ off ≤ o ∧ o < off + m
/-- No cell but those of H was turned. -/
structure Turn (H : Nat → Nat → Prop) (w w' : World) : Prop where
  os : w'.os = w.os
  tape : w'.tape = w.tape
  output : w'.output = w.output
  size : w'.heap.size = w.heap.size
  block : ∀ k, (∀ o, ¬ H k o) → w'.heap[k]? = w.heap[k]?
  cell : ∀ k o, ¬ H k o → w'.cell? ⟨k, o, none⟩ = w.cell? ⟨k, o, none⟩
  ice : ∀ k o, w'.frozen? ⟨k, o, none⟩ = w.frozen? ⟨k, o, none⟩
theorem Turn.refl (H : Nat → Nat → Prop) (w : World) : Turn H w w := ⟨rfl, rfl, rfl, rfl, fun _ _ => rfl, fun _ _ _ => rfl, fun _ _ => rfl⟩
theorem Turn.trans {H : Nat → Nat → Prop} {x y z : World} (h : Turn H x y) (g : Turn H y z) : Turn H x z :=
  ⟨g.os.trans h.os, g.tape.trans h.tape, g.output.trans h.output, g.size.trans h.size, fun k hk => (g.block k hk).trans (h.block k hk), fun k o hk => (g.cell k o hk).trans (h.cell k o hk), fun k o => (g.ice k o).trans (h.ice k o)⟩
theorem Turn.wide {H G : Nat → Nat → Prop} {x y : World} (h : Turn H x y) (hg : ∀ k o, H k o → G k o) : Turn G x y :=
  ⟨h.os, h.tape, h.output, h.size, fun k hk => h.block k fun o ho => hk o (hg k o ho), fun k o hk => h.cell k o fun ho => hk (hg k o ho), h.ice⟩
theorem turn_set (w : World) (g o : Nat) (u : Value) : Turn (fun k p => k = g ∧ p = o) w (w.setCell ⟨g, o, none⟩ u) := by
  refine ⟨rfl, rfl, rfl, by simp [World.setCell], fun k hk => Below.heap_setCell _ _ _ _ (fun e => hk o ⟨e, rfl⟩), fun k p hk => ?_, fun k p => World.frozen?_setCell _ _ _ _⟩
  refine World.cell?_setCell_other _ _ _ _ ?_
  intro e
  simp only [Addr.mk.injEq, and_true] at e
  exact hk ⟨e.1.symm, e.2.symm⟩
theorem cell_kept {w w' : World} {k o : Nat} (h : w'.heap[k]? = w.heap[k]?) : w'.cell? ⟨k, o, none⟩ = w.cell? ⟨k, o, none⟩ := World.cell?_of_block (w := w) h
theorem ice_kept {w w' : World} {k o : Nat} (h : w'.heap[k]? = w.heap[k]?) : w'.frozen? ⟨k, o, none⟩ = w.frozen? ⟨k, o, none⟩ := World.frozen?_of_block (w := w) h
section
variable {b t n : Nat} {w w' : World} {v : Value} {xs : List Value}
theorem SlIn.shape (h : SlIn b t w v n xs) : ∃ a cap, v = .slice a n cap := by
  obtain ⟨a, cap, e, _⟩ := h
  exact ⟨a, cap, e⟩
theorem SlIn.keep (h : SlIn b t w v n xs) (hs : w.heap.size ≤ w'.heap.size) (hk : ∀ k, b ≤ k → k < t → w'.heap[k]? = w.heap[k]?) : SlIn b t w' v n xs := by
  obtain ⟨a, cap, e, hx⟩ := h
  refine ⟨a, cap, e, fun hne => ?_⟩
  obtain ⟨g, off, e1, h1, h2, h3, h4⟩ := hx hne
  refine ⟨g, off, e1, h1, h2, Nat.le_trans h3 hs, fun j hj => ?_⟩
  rw [cell_kept (hk g h1 h2), ice_kept (hk g h1 h2)]
  exact h4 j hj
theorem SlIn.below (h : SlIn b t w v n xs) (g : Below w.heap.size w w') : SlIn b t w' v n xs := by
  obtain ⟨a, cap, e, hx⟩ := h
  refine ⟨a, cap, e, fun hne => ?_⟩
  obtain ⟨g0, off, e1, h1, h2, h3, h4⟩ := hx hne
  refine ⟨g0, off, e1, h1, h2, Nat.le_trans h3 g.size, fun j hj => ?_⟩
  have hb := g.block g0 (Nat.lt_of_lt_of_le h2 h3)
  rw [cell_kept hb, ice_kept hb]
  exact h4 j hj
theorem SlIn.turn {H : Nat → Nat → Prop} (h : SlIn b t w v n xs) (g : Turn H w w') (hd : ∀ k o, Hits v xs.length k o → ¬ H k o) : SlIn b t w' v n xs := by
  obtain ⟨a, cap, e, hx⟩ := h
  refine ⟨a, cap, e, fun hne => ?_⟩
  obtain ⟨g0, off, e1, h1, h2, h3, h4⟩ := hx hne
  refine ⟨g0, off, e1, h1, h2, by rw [g.size]; exact h3, fun j hj => ?_⟩
  rw [g.cell g0 (off + j) (hd _ _ ⟨off, n, cap, by rw [e, e1], by omega, by omega⟩), g.ice]
  exact h4 j hj
theorem SlIn.wide {b' t' : Nat} (h : SlIn b t w v n xs) (hb : b' ≤ b) (ht : t ≤ t') (hs : t' ≤ w.heap.size) : SlIn b' t' w v n xs := by
  obtain ⟨a, cap, e, hx⟩ := h
  refine ⟨a, cap, e, fun hne => ?_⟩
  obtain ⟨g0, off, e1, h1, h2, h3, h4⟩ := hx hne
  exact ⟨g0, off, e1, Nat.le_trans hb h1, Nat.lt_of_lt_of_le h2 ht, hs, h4⟩
theorem SlIn.in (h : SlIn b t w v n xs) {k o : Nat} (hh : Hits v xs.length k o) : b ≤ k ∧ k < t := by
  obtain ⟨a, cap, e, hx⟩ := h
  obtain ⟨off, n', cap', e', h1, h2⟩ := hh
  obtain ⟨g0, off', e1, h3, h4, _⟩ := hx (by rintro rfl; simp at h2; omega)
  rw [e, e1] at e'
  cases e'
  exact ⟨h3, h4⟩
theorem SlIn.put {g off cap : Nat} (h : SlIn b t w (.slice (some ⟨g, off, none⟩) n cap) n xs) (j : Nat) (hj : j < xs.length) (u : Value) :
    SlIn b t (w.setCell ⟨g, off + j, none⟩ u) (.slice (some ⟨g, off, none⟩) n cap) n (xs.set j u) := by
  obtain ⟨a, cap', e, hx⟩ := h
  cases e
  refine ⟨_, _, rfl, fun _ => ?_⟩
  obtain ⟨g0, off', e1, h1, h2, h3, h4⟩ := hx (by rintro rfl; simp at hj)
  cases e1
  refine ⟨g, off, rfl, h1, h2, by simpa [World.setCell] using h3, fun i hi => ?_⟩
  rw [List.length_set] at hi
  refine ⟨?_, by rw [World.frozen?_setCell]; exact (h4 i hi).2⟩
  by_cases hij : i = j
  · subst hij
    rw [World.cell?_setCell_same' _ _ _ (by rw [(h4 i hi).1]; rfl)]
    simp [hi]
  · rw [World.cell?_setCell_other _ _ _ _ (by simp <;> omega), (h4 i hi).1, List.getElem?_set_ne (fun e => hij e.symm)]
theorem SlIn.nil (b t : Nat) (w : World) (a : Option Addr) (cap n : Nat) : SlIn b t w (.slice a n cap) n [] := ⟨a, cap, rfl, fun h => absurd rfl h⟩
theorem SlIn.of_row {e : TypeId} {c : Nat} (h : w.ownsRow b e c v n xs) (ht : ∀ k, v.ownBlock = some k → k < t) (hs : t ≤ w.heap.size) : SlIn b t w v n xs := by
  rcases h.2 with ⟨rfl, rfl⟩ | ⟨g, cap, cur, rfl, hb, hg, hc, _, hz, hx⟩
  · have : xs = [] := by have := h.1; simpa using this
    subst this
    exact SlIn.nil _ _ _ _ _ _
  · refine ⟨_, _, rfl, fun _ => ⟨g, 0, rfl, hb, ht g rfl, hs, fun j hj => ?_⟩⟩
    rw [Nat.zero_add]
    refine ⟨?_, h.frozenAt j⟩
    rw [h.cellAt j (by rw [← h.1]; exact hj), List.getElem?_eq_getElem hj]
    rfl
theorem SlIn.cells {g off cap : Nat} (h : SlIn b t w (.slice (some ⟨g, off, none⟩) n cap) n xs) (j : Nat) (hj : j < xs.length) : w.cell? ⟨g, off + j, none⟩ = some (xs[j]?.getD undef) ∧ w.frozen? ⟨g, off + j, none⟩ = false := by
  obtain ⟨a, cap', e, hx⟩ := h
  cases e
  obtain ⟨g0, off', e1, h1, h2, h3, h4⟩ := hx (by rintro rfl; simp at hj)
  cases e1
  exact h4 j hj
theorem SlIn.some {a : Option Addr} {cap : Nat} (h : SlIn b t w (.slice a n cap) n xs) (hne : xs ≠ []) : ∃ g off, a = some ⟨g, off, none⟩ ∧ b ≤ g ∧ g < t ∧ t ≤ w.heap.size := by
  obtain ⟨a', cap', e, hx⟩ := h
  cases e
  obtain ⟨g0, off', e1, h1, h2, h3, _⟩ := hx hne
  exact ⟨g0, off', e1, h1, h2, h3⟩
end
end Go.Proofs.YtgebghkcikmfaaaGreatDoor

/-
  A struct's block as one fact: a field put, all fields put. By the verifier.
-/
namespace Go.Proofs.YtgebghkcikmfaaaGreatDoor
open Go.RowKit

/-- A block that holds these cells. -/
def Boxed (w : World) (B : Nat) (cs : Array Value) (t : TypeId) : Prop := w.heap[B]? = some (.cells cs t)
theorem Boxed.cell {w : World} {B : Nat} {cs : Array Value} {t : TypeId} (h : Boxed w B cs t) (j : Nat) {v : Value} (hj : cs[j]? = some v) : w.cell? ⟨B, j, none⟩ = some v := by
  unfold Boxed at h
  simp [World.cell?, h, hj]
theorem Boxed.below {w w' : World} {B : Nat} {cs : Array Value} {t : TypeId} (h : Boxed w B cs t) {b : Nat} (hb : B < b) (g : Below b w w') : Boxed w' B cs t := by
  unfold Boxed; rw [g.block B hb]; exact h
theorem Boxed.new (w : World) (cs : Array Value) (t : TypeId) : Boxed (w.alloc (.cells cs t)) w.heap.size cs t := by show (w.heap.push _)[w.heap.size]? = _; simp
theorem heapLt {w : World} {k : Nat} {o : Obj} (h : w.heap[k]? = some o) : k < w.heap.size := (Array.getElem?_eq_some_iff.1 h).1
theorem Boxed.under {w : World} {k : Nat} {cs : Array Value} {t : TypeId} (x : Boxed w k cs t) : k < w.heap.size := heapLt x
theorem Boxed.put {w : World} {k : Nat} {cs : Array Value} {t : TypeId} (x : Boxed w k cs t) (j : Nat) (v : Value) : Boxed (w.setCell ⟨k, j, none⟩ v) k (cs.setIfInBounds j v) t := by
  unfold Boxed at *
  simp only [World.setCell, Array.getElem?_modify, if_true, x, Option.map_some]
  rfl
theorem Boxed.far {w : World} {k b : Nat} {cs : Array Value} {t : TypeId} (x : Boxed w k cs t) (h : k ≠ b) (j : Nat) (v : Value) : Boxed (w.setCell ⟨b, j, none⟩ v) k cs t := by
  unfold Boxed at *
  rw [Below.heap_setCell _ _ _ _ h]; exact x
theorem Boxed.ice {w : World} {B : Nat} {cs : Array Value} {t : TypeId} (h : Boxed w B cs t) (j : Nat) : w.frozen? ⟨B, j, none⟩ = false := by
  unfold Boxed at h
  simp [World.frozen?, h]
theorem Boxed.more {w : World} {B : Nat} {cs : Array Value} {t : TypeId} (h : Boxed w B cs t) (o : Obj) : Boxed (w.alloc o) B cs t := by
  unfold Boxed at *
  rw [Below.heap_alloc _ _ _ (heapLt h)]; exact h
end Go.Proofs.YtgebghkcikmfaaaGreatDoor

/-
  Frames as plain data: which are right, and the bytes that are shown ahead of a body. By the verifier.
-/
namespace Go.Proofs.YtgebghkcikmfaaaGreatDoor
open Go.RowKit

/-- A frame: its numbers, its tags, its body. -/
structure Fr where
  to : Int
  frm : Int
  tags : List Int
  src : Int
  dst : Int
  proto : Int
  sport : Int
  dport : Int
  mark : Int
  sum : Int
  body : ByteArray

/-- From lo to hi. -/
def inB (lo hi n : Int) : Bool := decide (lo ≤ n ∧ n ≤ hi)
theorem inB_true {lo hi n : Int} : inB lo hi n = true ↔ lo ≤ n ∧ n ≤ hi := by simp [inB]
theorem inB_false {lo hi n : Int} : inB lo hi n = false ↔ n < lo ∨ hi < n := by simp [inB]; omega

/-- A right frame. -/
def Fr.Ok (f : Fr) : Prop :=
  (0 ≤ f.to ∧ f.to ≤ 65535) ∧ (0 ≤ f.frm ∧ f.frm ≤ 65535) ∧ f.tags.length ≤ 2 ∧ (0 ≤ f.src ∧ f.src ≤ 4294967295) ∧ (0 ≤ f.dst ∧ f.dst ≤ 4294967295) ∧
  (0 ≤ f.proto ∧ f.proto ≤ 255) ∧ (0 ≤ f.sport ∧ f.sport ≤ 65535) ∧ (0 ≤ f.dport ∧ f.dport ≤ 65535) ∧ (0 ≤ f.mark ∧ f.mark ≤ 3) ∧ (0 ≤ f.sum ∧ f.sum ≤ 65535) ∧
  f.body.size ≤ 1500 ∧ f.tags.all (inB 0 4095) = true
def Fr.okDec (f : Fr) : Decidable f.Ok := by unfold Fr.Ok; exact inferInstance
/-- As a flag. -/
def Fr.ok (f : Fr) : Bool := @decide f.Ok f.okDec
theorem Fr.ok_true {f : Fr} : f.ok = true ↔ f.Ok := @decide_eq_true_iff f.Ok f.okDec
/-- n in k bytes, the highest first. -/
def be : Nat → Int → List Int
  | 0, _ => []
  | k + 1, n => (n / 256 ^ k % 256) :: be k n
theorem be_length (k : Nat) (n : Int) : (be k n).length = k := by induction k with
  | zero => rfl
  | succ k ih => simp [be, ih]
/-- The tags as they are shown. -/
def tagBytes : List Int → List Int
  | [] => []
  | z :: r => 1 :: (be 2 z ++ tagBytes r)
theorem tagBytes_append (a b : List Int) : tagBytes (a ++ b) = tagBytes a ++ tagBytes b := by induction a with
  | nil => rfl
  | cons x r ih => simp [tagBytes, ih]
theorem tagBytes_length (a : List Int) : (tagBytes a).length = 3 * a.length := by induction a with
  | nil => rfl
  | cons x r ih => simp [tagBytes, ih, be_length]; omega
/-- Up to the tags' end. -/
def Fr.outer (f : Fr) : List Int := be 2 f.to ++ be 2 f.frm ++ tagBytes f.tags
/-- From the source on, ahead of the body. -/
def Fr.mid (f : Fr) : List Int :=
  be 4 f.src ++ be 4 f.dst ++ be 1 f.proto ++ be 2 f.sport ++ be 2 f.dport ++ be 1 f.mark ++ be 2 f.sum ++ be 2 f.body.size
/-- All that is shown ahead of the body. -/
def Fr.head (f : Fr) : List Int := f.outer ++ [2] ++ f.mid
theorem Fr.outer_length (f : Fr) : f.outer.length = 4 + 3 * f.tags.length := by simp [Fr.outer, be_length, tagBytes_length]; omega
theorem Fr.mid_length (f : Fr) : f.mid.length = 18 := by simp [Fr.mid, be_length]
theorem Fr.head_length (f : Fr) : f.head.length = 23 + 3 * f.tags.length := by simp [Fr.head, Fr.outer_length, Fr.mid_length]; omega

/-- Bytes as a text. -/
def strB (xs : List Int) : ByteArray := ⟨(xs.map fun n => UInt8.ofNat n.toNat).toArray⟩
/-- What a frame is shown as. -/
def Fr.show (f : Fr) : ByteArray := if f.ok then strB f.head ++ f.body else ByteArray.empty
/-- How long the head is. -/
def Fr.headSize (f : Fr) : Int := if f.ok then 23 + 3 * (f.tags.length : Int) else 0

/-- Cells that hold these numbers. -/
def IntsAt (w : World) (a : Option Addr) (zs : List Int) : Prop :=
  ∀ k, k < zs.length → ∃ b off, a = some ⟨b, off, none⟩ ∧ b < w.heap.size ∧ w.cell? ⟨b, off + k, none⟩ = some (.int .i64 (zs[k]?.getD 0))
theorem IntsAt.below {w w' : World} {a : Option Addr} {zs : List Int} (h : IntsAt w a zs) (g : Below w.heap.size w w') : IntsAt w' a zs := by
  intro k hk
  obtain ⟨b, off, e, hb, hc⟩ := h k hk
  exact ⟨b, off, e, Nat.lt_of_lt_of_le hb g.size, by rw [g.cell (p := ⟨b, off + k, none⟩) hb]; exact hc⟩
theorem IntsAt.alloc {w : World} {a : Option Addr} {zs : List Int} (h : IntsAt w a zs) (o : Obj) : IntsAt (w.alloc o) a zs :=
  h.below ((Below.refl _ _).alloc (Nat.le_refl _) _)
theorem IntsAt.nil (w : World) (a : Option Addr) : IntsAt w a [] := by intro k hk; simp at hk
/-- A frame as a value. -/
def Fr.val (f : Fr) (a : Option Addr) (cap : Nat) : Value :=
  .agg #[.int .i64 f.to, .int .i64 f.frm, .slice a f.tags.length cap, .int .i64 f.src, .int .i64 f.dst, .int .i64 f.proto, .int .i64 f.sport, .int .i64 f.dport, .int .i64 f.mark, .int .i64 f.sum, .string f.body]
theorem ints_new (w : World) (t : TypeId) (zs : List Int) (cs : Array Value) (B : Nat) (hB : B = w.heap.size) (h : cs = (zs.map (Value.int .i64)).toArray) : IntsAt (w.alloc (.cells cs t)) (some ⟨B, 0, none⟩) zs := by
  subst hB; subst h
  intro k hk
  refine ⟨_, _, rfl, by simp, ?_⟩
  rw [World.cell?_alloc_new w _ _ (0 + k)]
  simp [List.getElem?_eq_getElem hk]
theorem bel_alloc {B : Nat} {w w' : World} (h : Below B w w') (hB : B ≤ w.heap.size) (o : Obj) : Below B w (w'.alloc o) := h.alloc (Nat.le_trans hB h.size) o
end Go.Proofs.YtgebghkcikmfaaaGreatDoor

/-
  A record of 3 numbers (Item) as plain data, and cells that hold a list of them. By the verifier, by program.
-/
namespace Go.Proofs.YtgebghkcikmfaaaGreatDoor
open Go.RowKit

structure It where
  id : Int
  size : Int
  tm : Int
/-- As a value. -/
def It.val (r : It) : Value := .agg #[.int .i64 r.id, .int .i64 r.size, .int .i64 r.tm]
/-- Its cells. -/
def It.cells (r : It) : List Value := [.int .i64 r.id, .int .i64 r.size, .int .i64 r.tm]
/-- The one at a place. -/
def itAt (l : List It) (k : Nat) : It := l[k]?.getD ⟨0, 0, 0⟩
theorem itAt_lt {l : List It} {k : Nat} (h : k < l.length) : itAt l k = l[k] := by simp [itAt, List.getElem?_eq_getElem h]
/-- Cells that hold these. -/
def ItsAt (w : World) (a : Option Addr) (l : List It) : Prop :=
  ∀ k, k < l.length → ∃ b off, a = some ⟨b, off, none⟩ ∧ b < w.heap.size ∧ w.cell? ⟨b, off + k * 3, none⟩ = some (.int .i64 (itAt l k).id) ∧ w.cell? ⟨b, off + k * 3 + 1, none⟩ = some (.int .i64 (itAt l k).size) ∧ w.cell? ⟨b, off + k * 3 + 2, none⟩ = some (.int .i64 (itAt l k).tm)
theorem ItsAt.below {w w' : World} {a : Option Addr} {l : List It} (h : ItsAt w a l) (g : Below w.heap.size w w') : ItsAt w' a l := by
  intro k hk
  obtain ⟨b, off, e, hb, c0, c1, c2⟩ := h k hk
  exact ⟨b, off, e, Nat.lt_of_lt_of_le hb g.size, by rw [g.cell (p := ⟨b, off + k * 3, none⟩) hb]; exact c0, by rw [g.cell (p := ⟨b, off + k * 3 + 1, none⟩) hb]; exact c1, by rw [g.cell (p := ⟨b, off + k * 3 + 2, none⟩) hb]; exact c2⟩
theorem ItsAt.alloc {w : World} {a : Option Addr} {l : List It} (h : ItsAt w a l) (o : Obj) : ItsAt (w.alloc o) a l :=
  h.below ((Below.refl _ _).alloc (Nat.le_refl _) _)
theorem ItsAt.drew {w : World} {a : Option Addr} {l : List It} (h : ItsAt w a l) : ItsAt w.drew a l := h.below (Below.refl _ _).drew
theorem ItsAt.nil (w : World) (a : Option Addr) : ItsAt w a [] := by intro k hk; simp at hk
theorem ItsAt.empty {w : World} {l : List It} (h : ItsAt w none l) : l = [] := by
  cases l with
  | nil => rfl
  | cons z zs => obtain ⟨b, off, e, _⟩ := h 0 (by simp); cases e
theorem ItsAt.cells {w : World} {b off k : Nat} {l : List It} (h : ItsAt w (some ⟨b, off, none⟩) l) (hk : k < l.length) : w.cell? ⟨b, off + k * 3, none⟩ = some (.int .i64 (itAt l k).id) ∧ w.cell? ⟨b, off + k * 3 + 1, none⟩ = some (.int .i64 (itAt l k).size) ∧ w.cell? ⟨b, off + k * 3 + 2, none⟩ = some (.int .i64 (itAt l k).tm) := by
  obtain ⟨b', off', e, _, c⟩ := h k hk
  cases e
  exact c
/-- The cells of a list. -/
def itcells (l : List It) : List Value := l.flatMap It.cells
theorem itcells_cons (r : It) (l : List It) : itcells (r :: l) = .int .i64 r.id :: .int .i64 r.size :: .int .i64 r.tm :: itcells l := rfl
theorem itcells_append (a b : List It) : itcells (a ++ b) = itcells a ++ itcells b := by simp [itcells]
theorem itcells_length (l : List It) : (itcells l).length = l.length * 3 := by
  induction l with
  | nil => rfl
  | cons r l ih => rw [itcells_cons]; simp [ih]; omega
theorem itcells_get (l : List It) (k : Nat) (hk : k < l.length) : (itcells l)[k * 3]? = some (.int .i64 (itAt l k).id) ∧ (itcells l)[k * 3 + 1]? = some (.int .i64 (itAt l k).size) ∧ (itcells l)[k * 3 + 2]? = some (.int .i64 (itAt l k).tm) := by
  induction l generalizing k with
  | nil => simp at hk
  | cons r l ih =>
    cases k with
    | zero => simp [itcells_cons, itAt]
    | succ k =>
      have := ih k (by simpa using hk)
      rw [show (k + 1) * 3 = k * 3 + 3 by omega]
      simpa [itcells_cons, itAt] using this
theorem itcells_one (l : List It) : ∀ u ∈ itcells l, u.oneCell' = true := by
  intro u hu
  induction l with
  | nil => simp [itcells] at hu
  | cons r l ih =>
    rw [itcells_cons] at hu
    simp only [List.mem_cons] at hu
    rcases hu with rfl | rfl | rfl | hu
    · rfl
    · rfl
    · rfl
    · exact ih hu
theorem itcells_set (l : List It) (k : Nat) (r : It) : (((itcells l).set (k * 3) (.int .i64 r.id)).set (k * 3 + 1) (.int .i64 r.size)).set (k * 3 + 2) (.int .i64 r.tm) = itcells (l.set k r) := by
  induction l generalizing k with
  | nil => simp [itcells]
  | cons x l ih =>
    cases k with
    | zero => simp [itcells_cons]
    | succ k =>
      rw [show (k + 1) * 3 = k * 3 + 3 by omega, List.set_cons_succ, itcells_cons, itcells_cons, ← ih k]
      rfl
/-- A list of the call's own. -/
def ItRow (base : Nat) (w : World) (v : Value) (l : List It) : Prop := w.ownsRow base 52 3 v l.length (itcells l)
theorem ItRow.carry {base : Nat} {w w' : World} {v : Value} {l : List It} (h : ItRow base w v l) (g : ∀ k, v.ownBlock = some k → k < w.heap.size → w'.heap[k]? = w.heap[k]?) : ItRow base w' v l := by
  refine ⟨h.1, h.2.imp id ?_⟩
  rintro ⟨g0, cap, cur, h1, h2, h3, h4⟩
  exact ⟨g0, cap, cur, h1, h2, by rw [g g0 (by rw [h1]; rfl) (Array.getElem?_eq_some_iff.1 h3).1]; exact h3, h4⟩
theorem ItRow.shape {base : Nat} {w : World} {v : Value} {l : List It} (h : ItRow base w v l) : ∃ a cap, v = .slice a l.length cap := by
  rcases h.2 with ⟨rfl, hn⟩ | ⟨g, cap, cur, rfl, _⟩
  · rw [hn]; exact ⟨none, 0, rfl⟩
  · exact ⟨_, _, rfl⟩
theorem ItRow.cap {base : Nat} {w : World} {a : Option Addr} {c : Nat} {l : List It} (h : ItRow base w (.slice a l.length c) l) : l.length ≤ c := by
  rcases h.2 with ⟨e, hn⟩ | ⟨g', c', cur, e, _, _, h4, _⟩
  · omega
  · cases e; exact h4
theorem ItRow.nilCap {base : Nat} {w : World} {a : Option Addr} {c : Nat} {l : List It} (h : ItRow base w (.slice a l.length c) l) : a = none → c = 0 := by
  intro ha
  subst ha
  rcases h.2 with ⟨e, hn⟩ | ⟨g', c', cur, e, _⟩
  · simpa using (Value.slice.inj e).2.2
  · cases e
theorem ItRow.lt {base : Nat} {w : World} {v : Value} {l : List It} (h : ItRow base w v l) : ∀ k, v.ownBlock = some k → base ≤ k ∧ k < w.heap.size := World.ownsRow.lt h
theorem ItRow.mono {base base' : Nat} {w : World} {v : Value} {l : List It} (h : ItRow base w v l) (hb : base' ≤ base) : ItRow base' w v l := ⟨h.1, h.2.imp id fun ⟨g, cap, cur, h1, h2, h3⟩ => ⟨g, cap, cur, h1, Nat.le_trans hb h2, h3⟩⟩
/-- One of them put. -/
theorem ItRow.put {base : Nat} {w : World} {g cap n : Nat} {l : List It} (h : w.ownsRow base 52 3 (.slice (some ⟨g, 0, none⟩) n cap) n (itcells l)) (k : Nat) (r : It) :
    (((w.setCell ⟨g, k * 3, none⟩ (.int .i64 r.id)).setCell ⟨g, k * 3 + 1, none⟩ (.int .i64 r.size)).setCell ⟨g, k * 3 + 2, none⟩ (.int .i64 r.tm)).ownsRow base 52 3 (.slice (some ⟨g, 0, none⟩) n cap) n (itcells (l.set k r)) := by
  have h1 := (h.stored (k * 3) (.int .i64 r.id)).1
  have h2 := (h1.stored (k * 3 + 1) (.int .i64 r.size)).1
  have h3 := (h2.stored (k * 3 + 2) (.int .i64 r.tm)).1
  rw [itcells_set] at h3
  exact h3
theorem itInfo : (Tryz.prog.info? 52).map (fun i => (i.zero, i.size, i.bytes)) = some (some (.agg #[.int .i64 0, .int .i64 0, .int .i64 0]), 3, 24) := by kernel_rfl
theorem itMade (n : Nat) : (madeCells #[Value.int .i64 0, .int .i64 0, .int .i64 0] (n * 3)).toList = itcells (List.replicate n ⟨0, 0, 0⟩) := by
  apply List.ext_getElem?
  intro i
  by_cases hi : i < n * 3
  · obtain ⟨k, j, rfl, hj⟩ : ∃ k j, i = k * 3 + j ∧ j < 3 := ⟨i / 3, i % 3, by omega, Nat.mod_lt _ (by omega)⟩
    have hk : k < n := by omega
    obtain ⟨e0, e1, e2⟩ := itcells_get (List.replicate n ⟨0, 0, 0⟩) k (by simpa using hk)
    have hz : itAt (List.replicate n ⟨0, 0, 0⟩) k = ⟨0, 0, 0⟩ := by simp [itAt, hk]
    rw [hz] at e0 e1 e2
    have hm : (k * 3 + j) % 3 = j := by omega
    have hL : (madeCells #[Value.int .i64 0, .int .i64 0, .int .i64 0] (n * 3)).toList[k * 3 + j]? = some (.int .i64 0) := by
      simp [madeCells, hi, hm]
      match j, hj with
      | 0, _ => rfl
      | 1, _ => rfl
      | 2, _ => rfl
    rw [hL]
    match j, hj with
    | 0, _ => exact e0.symm
    | 1, _ => exact e1.symm
    | 2, _ => exact e2.symm
  · rw [List.getElem?_eq_none (by simp [madeCells]; omega), List.getElem?_eq_none (by rw [itcells_length]; simp; omega)]
theorem itTakeSet (l : List It) (n k : Nat) (hn : l.length = n) (hk : k < n) : (l.take k ++ List.replicate (n - k) (⟨0, 0, 0⟩ : It)).set k (itAt l k) = l.take (k + 1) ++ List.replicate (n - (k + 1)) ⟨0, 0, 0⟩ := by
  subst hn
  rw [List.set_append_right _ _ (by simp; omega), List.take_succ_eq_append_getElem hk, itAt_lt hk]
  simp only [List.length_take, Nat.min_eq_left (Nat.le_of_lt hk), Nat.sub_self]
  obtain ⟨m, hm⟩ : ∃ m, l.length - k = m + 1 := ⟨l.length - k - 1, by omega⟩
  rw [hm, show l.length - (k + 1) = m by omega, List.replicate_succ, List.set_cons_zero]
  simp only [List.append_assoc, List.cons_append, List.nil_append]
end Go.Proofs.YtgebghkcikmfaaaGreatDoor

/-
  Lists of records (Item) that lie wherever: read. By the verifier, by program.
-/
namespace Go.Proofs.YtgebghkcikmfaaaGreatDoor
open Go.RowKit

/-- A list of records in blocks from b up to t. -/
def ItIn (b t : Nat) (w : World) (v : Value) (l : List It) : Prop := SlIn b t w v l.length (itcells l)
theorem itcells_ne {l : List It} (h : 0 < l.length) : itcells l ≠ [] := by
  intro e
  have := itcells_length l
  rw [e] at this
  simp at this
  omega
theorem ItsAt.of_in {b t : Nat} {w : World} {a : Option Addr} {cap : Nat} {l : List It} (h : ItIn b t w (.slice a l.length cap) l) : ItsAt w a l := by
  intro k hk
  obtain ⟨g, off, rfl, h1, h2, h3⟩ := SlIn.some h (itcells_ne (by omega))
  have hl := itcells_length l
  obtain ⟨e0, e1, e2⟩ := itcells_get l k hk
  refine ⟨g, off, rfl, by omega, ?_, ?_, ?_⟩
  · have := (SlIn.cells h (k * 3) (by omega)).1
    rw [e0] at this
    exact this
  · have := (SlIn.cells h (k * 3 + 1) (by omega)).1
    rw [e1] at this
    exact this
  · have := (SlIn.cells h (k * 3 + 2) (by omega)).1
    rw [e2] at this
    exact this
theorem ItIn.of_row {b t : Nat} {w : World} {v : Value} {l : List It} (h : ItRow b w v l) (ht : ∀ k, v.ownBlock = some k → k < t) (hs : t ≤ w.heap.size) : ItIn b t w v l := SlIn.of_row h ht hs
end Go.Proofs.YtgebghkcikmfaaaGreatDoor

/-
  Lists of lists of records (Item): cells that hold them, memory of the call's own, sums of lengths. By the verifier, by program.
-/
namespace Go.Proofs.YtgebghkcikmfaaaGreatDoor
open Go.RowKit

/-- The list at a place. -/
def izAt (ls : List (List It)) (i : Nat) : List It := ls[i]?.getD []
theorem izAt_lt {ls : List (List It)} {i : Nat} (h : i < ls.length) : izAt ls i = ls[i] := by simp [izAt, List.getElem?_eq_getElem h]
/-- The header at a place. -/
def izV (vs : List Value) (i : Nat) : Value := vs[i]?.getD (.slice none 0 0)
/-- Cells that hold these. -/
def IzAt (w : World) (a : Option Addr) (ls : List (List It)) : Prop :=
  ∀ k, k < ls.length → ∃ b off ak ck, a = some ⟨b, off, none⟩ ∧ b < w.heap.size ∧ w.cell? ⟨b, off + k, none⟩ = some (.slice ak (izAt ls k).length ck) ∧ ItsAt w ak (izAt ls k) ∧ (izAt ls k).length ≤ ck ∧ (ak = none → ck = 0)
theorem IzAt.below {w w' : World} {a : Option Addr} {ls : List (List It)} (h : IzAt w a ls) (g : Below w.heap.size w w') : IzAt w' a ls := by
  intro k hk
  obtain ⟨b, off, ak, ck, e, hb, hc, hr, hl⟩ := h k hk
  exact ⟨b, off, ak, ck, e, Nat.lt_of_lt_of_le hb g.size, by rw [g.cell (p := ⟨b, off + k, none⟩) hb]; exact hc, hr.below g, hl⟩
theorem IzAt.alloc {w : World} {a : Option Addr} {ls : List (List It)} (h : IzAt w a ls) (o : Obj) : IzAt (w.alloc o) a ls := h.below ((Below.refl _ _).alloc (Nat.le_refl _) _)
theorem IzAt.drew {w : World} {a : Option Addr} {ls : List (List It)} (h : IzAt w a ls) : IzAt w.drew a ls := h.below (Below.refl _ _).drew
theorem IzAt.nil (w : World) (a : Option Addr) : IzAt w a [] := by intro k hk; simp at hk
/-- Lists of the call's own, in blocks from b up to t: no two share a cell, none shares one with the list of headers. -/
structure IzV (b t : Nat) (w : World) (v : Value) (vs : List Value) (ls : List (List It)) : Prop where
  outer : SlIn b t w v ls.length vs
  len : vs.length = ls.length
  row : ∀ i, i < ls.length → ItIn b t w (izV vs i) (izAt ls i)
  cap : ∀ i, i < ls.length → ∃ a c, izV vs i = .slice a (izAt ls i).length c ∧ (izAt ls i).length ≤ c ∧ (a = none → c = 0)
  apart : ∀ i j k o, i < ls.length → j < ls.length → i ≠ j → Hits (izV vs i) ((izAt ls i).length * 3) k o → ¬ Hits (izV vs j) ((izAt ls j).length * 3) k o
  free : ∀ i k o, i < ls.length → Hits (izV vs i) ((izAt ls i).length * 3) k o → ¬ Hits v ls.length k o
/-- The same, whatever the headers. -/
def IzIn (b t : Nat) (w : World) (v : Value) (ls : List (List It)) : Prop := ∃ vs, IzV b t w v vs ls
section
variable {b t : Nat} {w w' : World} {v : Value} {vs : List Value} {ls : List (List It)}
theorem IzV.keep (h : IzV b t w v vs ls) (hs : w.heap.size ≤ w'.heap.size) (hk : ∀ k, b ≤ k → k < t → w'.heap[k]? = w.heap[k]?) : IzV b t w' v vs ls :=
  ⟨h.outer.keep hs hk, h.len, fun i hi => SlIn.keep (h.row i hi) hs hk, h.cap, h.apart, h.free⟩
theorem IzV.below (h : IzV b t w v vs ls) (g : Below w.heap.size w w') : IzV b t w' v vs ls :=
  ⟨h.outer.below g, h.len, fun i hi => SlIn.below (h.row i hi) g, h.cap, h.apart, h.free⟩
theorem IzV.wide {b' t' : Nat} (h : IzV b t w v vs ls) (hb : b' ≤ b) (ht : t ≤ t') (hs : t' ≤ w.heap.size) : IzV b' t' w v vs ls :=
  ⟨h.outer.wide hb ht hs, h.len, fun i hi => SlIn.wide (h.row i hi) hb ht hs, h.cap, h.apart, h.free⟩
theorem IzIn.keep (h : IzIn b t w v ls) (hs : w.heap.size ≤ w'.heap.size) (hk : ∀ k, b ≤ k → k < t → w'.heap[k]? = w.heap[k]?) : IzIn b t w' v ls := by
  obtain ⟨vs, h⟩ := h
  exact ⟨vs, h.keep hs hk⟩
theorem IzIn.below (h : IzIn b t w v ls) (g : Below w.heap.size w w') : IzIn b t w' v ls := by
  obtain ⟨vs, h⟩ := h
  exact ⟨vs, h.below g⟩
theorem IzIn.wide {b' t' : Nat} (h : IzIn b t w v ls) (hb : b' ≤ b) (ht : t ≤ t') (hs : t' ≤ w.heap.size) : IzIn b' t' w v ls := by
  obtain ⟨vs, h⟩ := h
  exact ⟨vs, h.wide hb ht hs⟩
theorem IzV.at {a : Option Addr} {c : Nat} (h : IzV b t w (.slice a ls.length c) vs ls) : IzAt w a ls := by
  intro k hk
  have hl := h.len
  obtain ⟨g, off, rfl, h1, h2, h3⟩ := h.outer.some (by intro e; rw [e] at hl; simp at hl; omega)
  obtain ⟨ak, ck, e, hc⟩ := h.cap k hk
  refine ⟨g, off, ak, ck, rfl, by omega, ?_, ?_, hc⟩
  · rw [(h.outer.cells k (by omega)).1, ← e]
    unfold izV
    rw [List.getElem?_eq_getElem (by omega)]
    rfl
  · have hr := h.row k hk
    rw [e] at hr
    exact ItsAt.of_in hr
theorem IzIn.at {a : Option Addr} {c : Nat} (h : IzIn b t w (.slice a ls.length c) ls) : IzAt w a ls := by
  obtain ⟨vs, h⟩ := h
  exact h.at
end
/-- How many there are in the first i of them. -/
def izSum (ls : List (List It)) (i : Nat) : Nat := ((ls.take i).map List.length).sum
theorem izSum_zero (ls : List (List It)) : izSum ls 0 = 0 := by simp [izSum]
theorem izSum_succ {ls : List (List It)} {i : Nat} (h : i < ls.length) : izSum ls (i + 1) = izSum ls i + (izAt ls i).length := by
  unfold izSum
  rw [List.take_succ_eq_append_getElem h, List.map_append, List.sum_append, izAt_lt h]
  simp
theorem izSum_mono {ls : List (List It)} {i : Nat} : ∀ {j : Nat}, i ≤ j → j ≤ ls.length → izSum ls i ≤ izSum ls j := by
  intro j
  induction j with
  | zero => intro h _; rw [show i = 0 by omega]; exact Nat.le_refl _
  | succ j ih =>
    intro h hj
    by_cases e : i = j + 1
    · subst e; exact Nat.le_refl _
    · rw [izSum_succ (by omega)]
      have := ih (by omega) (by omega)
      omega
theorem izSum_one {ls : List (List It)} {i : Nat} (h : i < ls.length) : (izAt ls i).length ≤ izSum ls ls.length := by
  have h1 := izSum_succ h
  have h2 := izSum_mono (ls := ls) (show i + 1 ≤ ls.length by omega) (Nat.le_refl _)
  omega
theorem izOwn {v : Value} {m k o : Nat} (h : Hits v m k o) : v.ownBlock = some k := by
  obtain ⟨off, n, cap, rfl, _⟩ := h
  rfl
theorem izV_old {vs : List Value} {u : Value} {i : Nat} (h : i < vs.length) : izV (vs ++ [u]) i = izV vs i := by unfold izV; rw [List.getElem?_append_left h]
theorem izV_new {vs : List Value} {u : Value} : izV (vs ++ [u]) vs.length = u := by simp [izV]
theorem izInfo : (Tryz.prog.info? 111).map (fun i => (i.zero, i.size, i.bytes)) = some (some (.slice none 0 0), 1, 24) := by kernel_rfl
end Go.Proofs.YtgebghkcikmfaaaGreatDoor

/-
  A record of a number and a list (Rows) as plain data: cells that hold it, memory of the call's own. By the verifier, by program.
-/
namespace Go.Proofs.YtgebghkcikmfaaaGreatDoor
open Go.RowKit

structure Rw where
  most : Int
  lists : List (List It)
/-- As a value. -/
def Rw.val (r : Rw) (a : Option Addr) (c : Nat) : Value := .agg #[.int .i64 r.most, .slice a r.lists.length c]
/-- A value that holds it. -/
def RwAt (w : World) (v : Value) (r : Rw) : Prop := ∃ a c, v = r.val a c ∧ IzAt w a r.lists
/-- A value that holds it in memory from b up to t. -/
def RwIn (b t : Nat) (w : World) (v : Value) (r : Rw) : Prop := ∃ a c, v = r.val a c ∧ IzIn b t w (.slice a r.lists.length c) r.lists
/-- How much it is. -/
def Rw.big (r : Rw) : Nat := r.lists.length + izSum r.lists r.lists.length
section
variable {b t : Nat} {w w' : World} {v : Value} {r : Rw}
theorem RwIn.at (h : RwIn b t w v r) : RwAt w v r := by
  obtain ⟨a, c, e, h⟩ := h
  exact ⟨a, c, e, h.at⟩
theorem RwAt.below (h : RwAt w v r) (g : Below w.heap.size w w') : RwAt w' v r := by
  obtain ⟨a, c, e, h⟩ := h
  exact ⟨a, c, e, h.below g⟩
theorem RwIn.below (h : RwIn b t w v r) (g : Below w.heap.size w w') : RwIn b t w' v r := by
  obtain ⟨a, c, e, h⟩ := h
  exact ⟨a, c, e, h.below g⟩
theorem RwIn.keep (h : RwIn b t w v r) (hs : w.heap.size ≤ w'.heap.size) (hk : ∀ k, b ≤ k → k < t → w'.heap[k]? = w.heap[k]?) : RwIn b t w' v r := by
  obtain ⟨a, c, e, h⟩ := h
  exact ⟨a, c, e, h.keep hs hk⟩
end
theorem Rw.small {r : Rw} (h : r.big ≤ 1048576) : r.lists.length ≤ 1048576 ∧ izSum r.lists r.lists.length ≤ 1048576 ∧ ∀ k, k < r.lists.length → (izAt r.lists k).length ≤ 1048576 := by
  unfold Rw.big at h
  refine ⟨by omega, by omega, fun k hk => ?_⟩
  have := izSum_one hk
  omega
end Go.Proofs.YtgebghkcikmfaaaGreatDoor

/-
  A region that draws its order and only reads, whose callees lay blocks of their own: walked once, in the class of the worlds in which all that lay lies. By the verifier.
-/
namespace Go.Proofs.YtgebghkcikmfaaaGreatDoor
open Go.RowKit

/-- A world in which all that lay lies. -/
structure BelW (n : Nat) (w : World) where
  w' : World
  h : Below n w w'
theorem region_below {P : Program} {id : Nat} {Q : Exit → Act → World → Prop} {a : Act} {w : World} {l : List Oper} (n : Nat) (hm : P.follows .mixedOrders = true) (hB : Region.lexB .any l.toArray = true)
    (h : wpQuiet P l.toArray (fun x => ∃ p : BelW n w, x = p.w') (fun a' => ∀ x, (∃ p : BelW n w, x = p.w') → Q .normal a' x) l a) : (Code.region id l.toArray true).wp P Q a w :=
  wp_region_quiet (C := fun x => ∃ p : BelW n w, x = p.w') hm hB ⟨⟨w.drew, (Below.refl _ _).drew⟩, rfl⟩ (by simpa using h)
theorem quiet_below {P : Program} {f : FuncId} {args : Array Value} {n : Nat} {w : World} {p : BelW n w} {v : Value} (hn : n ≤ w.heap.size)
    (h : Calls P f args p.w' fun e w' => e = .returned v ∧ Below p.w'.heap.size p.w' w') : Calls P f args p.w' fun e w'' => e = .returned v ∧ ∃ q : BelW n w, w'' = q.w' :=
  h.mono fun _ w'' ⟨he, hb⟩ => ⟨he, ⟨w'', p.h.trans (hb.mono (Nat.le_trans hn p.h.size))⟩, rfl⟩
theorem BelW.out {n : Nat} {w x : World} (h : ∃ p : BelW n w, x = p.w') : Below n w x := by
  obtain ⟨p, rfl⟩ := h
  exact p.h
end Go.Proofs.YtgebghkcikmfaaaGreatDoor

/-
  Records (Item) put behind records of the call's own. By the verifier, by program.
-/
namespace Go.Proofs.YtgebghkcikmfaaaGreatDoor
open Go.RowKit

theorem it_app_run (w : World) (ty : TypeId) (base : Nat) (v : Value) (L : List It) (a0 : Option Addr) (c : Nat) (M : List It) (h : ItRow base w v L) (hM : ItsAt w a0 M) (hn : a0 = none → c = 0) (hl : L.length + M.length ≤ 2097152) (hb : base ≤ w.heap.size) :
    ∃ v' w', (Builtin.append_ #[111, 111] ty #[v, .slice a0 M.length c]).run Tryz.prog w = .ok v' w' ∧ ItRow base w' v' (L ++ M) ∧ Below base w w' ∧ w.grownBy w' v.ownBlock ∧ (v' = .slice none 0 0 → v = .slice none 0 0) := by
  obtain ⟨i0, hi0, hz0, hz1, hz2⟩ := info_parts itInfo
  cases a0 with
  | none =>
    obtain rfl := hM.empty
    obtain rfl := hn rfl
    refine ⟨v, w, run_append_owned_none (P := Tryz.prog) (w := w) base 111 ty 52 i0 3 Tryz.underlying111 hi0 v _ _ h, by simpa using h, Below.refl _ _, ⟨rfl, rfl, rfl, Nat.le_refl _, fun _ _ _ => rfl⟩, id⟩
  | some ad =>
    obtain ⟨v', w', h1, h2, h3, h4⟩ := run_append_own (P := Tryz.prog) w base 111 ty 52 i0 (.agg #[.int .i64 0, .int .i64 0, .int .i64 0]) 3 24 Tryz.underlying111 hi0 hz0 hz1 hz2 rfl (by decide) v _ _ h ad M.length c (itcells M) (itcells_length M)
      (by
        intro j u hj
        have hj' : j < M.length * 3 := by
          have := (List.getElem?_eq_some_iff.1 hj).1
          rwa [itcells_length] at this
        obtain ⟨k, i, rfl, hi⟩ : ∃ k i, j = k * 3 + i ∧ i < 3 := ⟨j / 3, j % 3, by omega, Nat.mod_lt _ (by omega)⟩
        have hk : k < M.length := by omega
        obtain ⟨b, off, e, _, c0, c1, c2⟩ := hM k hk
        cases e
        obtain ⟨e0, e1, e2⟩ := itcells_get M k hk
        rw [show (⟨b, off, none⟩ : Addr).add (k * 3 + i) = ⟨b, off + k * 3 + i, none⟩ by by_cases h0 : k * 3 + i = 0 <;> simp [Addr.add, h0, Nat.add_assoc]; omega]
        match i, hi with
        | 0, _ => rw [Nat.add_zero] at hj; rw [e0] at hj; rw [Nat.add_zero, c0]; exact hj
        | 1, _ => rw [e1] at hj; rw [c1]; exact hj
        | 2, _ => rw [e2] at hj; rw [c2]; exact hj)
      (itcells_one M) (by unfold maxLen; omega) (by omega) hb
    refine ⟨v', w', h1, ?_, (Below.refl base w).grown h3 hb (fun k hk => (h.lt k hk).1), h3, fun e => (h4.1 e).1⟩
    unfold ItRow
    rw [List.length_append, itcells_append]
    exact h2
/-- As an operation of a region that draws. -/
theorem it_op_app {o : Oper} {a : Act} {K : Act → World → Prop} {Q : Exit → Act → World → Prop} {w : World} (s x : Operand)
    (ho : o.op = .call { callee := .builtin .append, args := #[s, x], argTypes := #[111, 111] })
    (base : Nat) (v : Value) (L : List It) (a0 : Option Addr) (m c : Nat) (M : List It) (hm : M.length = m) (hs : a.eval s = v) (hx : a.eval x = .slice a0 m c) (hr : ItRow base w v L) (hM : ItsAt w a0 M) (hn : a0 = none → c = 0)
    (hl : L.length + M.length ≤ 2097152) (hb : base ≤ w.heap.size)
    (h : ∀ v' w', ItRow base w' v' (L ++ M) → Below base w w' → w.grownBy w' v.ownBlock → (v' = .slice none 0 0 → v = .slice none 0 0) → K (a.put o.dst v') w') : o.wp Tryz.prog a w K Q := by
  subst hm
  obtain ⟨v', w', hrun, h1, h2, h3, h4⟩ := it_app_run w o.type base v L a0 c M hr hM hn hl hb
  unfold Oper.wp
  simp [execOp, ho, resolve, invoke, builtin, hs, hx, hrun, Result.andThen]
  exact h v' w' h1 h2 h3 h4
/-- The empty list that was built. -/
theorem it_built (w : World) (base : Nat) (hb : base ≤ w.heap.size) : ItRow base (w.alloc (.cells #[] 52)) (.slice (some ⟨w.heap.size, 0, none⟩) 0 0) [] :=
  World.ownsRow_lit (size := 3) w #[] 0 hb (by unfold maxLen; omega) rfl
end Go.Proofs.YtgebghkcikmfaaaGreatDoor

/-
  Where the list lies that an append answers: where the first one lay, or in the next block. By the verifier.
-/
namespace Go.Proofs.YtgebghkcikmfaaaGreatDoor
open Go.RowKit

theorem run_append_where {P : Program} (w : World) (base : Nat) (t ty e : TypeId) (i : TypeInfo) (z : Value) (size bytes : Nat) (ht : P.underlying t = some (.slice e)) (hi : P.info? e = some i) (hz : i.zero = some z)
    (hsize : i.size = size) (hby : i.bytes = bytes) (hzs : z.cells.size = size) (hsz : 0 < size)
    (v : Value) (n : Nat) (xs : List Value) (hown : w.ownsRow base e size v n xs)
    (a : Addr) (m c : Nat) (news : List Value) (hl : news.length = m * size) (hnews : ∀ j u, news[j]? = some u → w.cell? (a.add j) = some u) (h1 : ∀ u ∈ news, u.oneCell' = true)
    (h63 : n + m ≤ maxLen) (hbytes : (n + m) * bytes ≤ 140737488355328) (hbase : base ≤ w.heap.size) :
    ∃ v' w', (Builtin.append_ #[t, t] ty #[v, .slice (some a) m c]).run P w = .ok v' w' ∧ w'.ownsRow base e size v' (n + m) (xs ++ news) ∧ w.grownBy w' v.ownBlock ∧
      (v' = .slice none 0 0 ↔ v = .slice none 0 0 ∧ m = 0) ∧ (v'.ownBlock = v.ownBlock ∨ v'.ownBlock = some w.heap.size) := by
  obtain ⟨v', w', hr, h2, h3, h4⟩ := run_append_own (P := P) w base t ty e i z size bytes ht hi hz hsize hby hzs hsz v n xs hown a m c news hl hnews h1 h63 hbytes hbase
  refine ⟨v', w', hr, h2, h3, h4, ?_⟩
  have hsmall : n + m ≤ 9223372036854775807 := by simp only [maxLen] at h63; omega
  subst hsize
  subst hby
  rcases hown.2 with ⟨rfl, rfl⟩ | ⟨g, cap, cur, rfl, hbg, hg, hnc, hcm, hcs, htake⟩
  · by_cases hm : m = 0
    · left
      rw [h4.2 ⟨rfl, hm⟩]
    · have hr2 := run_append_nil (P := P) w t ty e i z ht hi hz a m c news hl hnews (by omega) (by omega) (by have hb := hbytes; simp only [Nat.zero_add] at hb; omega)
      rw [hr] at hr2
      cases hr2
      right
      rfl
  · by_cases hroom : n + m ≤ cap
    · have hfit : n * i.size + news.length ≤ cur.size := by rw [hl, hcs, ← Nat.add_mul]; exact Nat.mul_le_mul_right _ hroom
      have hr2 := run_append_room (P := P) w t ty e i ht hi g n cap cur hg a m c news hl hnews h1 hroom hfit
      rw [hr] at hr2
      cases hr2
      left
      rfl
    · have hr2 := run_append_grow (P := P) w t ty e i z ht hi hz ⟨g, 0, none⟩ n cap xs hown.1 (hown.cells (g := g) rfl) a m c news hl hnews (by omega) (by omega) (growslice_fits (by omega) hbytes)
      rw [hr] at hr2
      cases hr2
      right
      rfl
end Go.Proofs.YtgebghkcikmfaaaGreatDoor

/-
  Lists of lists of records (Item) that grow, list by list, by append. By the verifier, by program.
-/
namespace Go.Proofs.YtgebghkcikmfaaaGreatDoor
open Go.RowKit

/-- So many lists of the call's own behind each other: the list of headers v, the headers vs. -/
structure IzG (base : Nat) (v : Value) (vs : List Value) (ls : List (List It)) (wr : World) : Prop where
  outer : wr.ownsRow base 111 1 v ls.length vs
  len : vs.length = ls.length
  row : ∀ i, i < ls.length → ItRow base wr (izV vs i) (izAt ls i)
  apart : ∀ i j k, i < ls.length → j < ls.length → i ≠ j → (izV vs i).ownBlock = some k → (izV vs j).ownBlock ≠ some k
section
variable {base : Nat} {v v' u : Value} {vs : List Value} {ls : List (List It)} {l : List It} {wr wd wx : World}
theorem izTypes : (111 : TypeId) ≠ 52 := by decide
/-- Rows of unlike kinds lie in unlike blocks. -/
theorem rows_unlike {b1 b2 : Nat} {e1 e2 : TypeId} {c1 c2 n1 n2 : Nat} {v1 v2 : Value} {x1 x2 : List Value} {w : World} (h1 : w.ownsRow b1 e1 c1 v1 n1 x1) (h2 : w.ownsRow b2 e2 c2 v2 n2 x2) (hne : e1 ≠ e2) (k : Nat) (hk : v1.ownBlock = some k) : v2.ownBlock ≠ some k := by
  intro hk2
  rcases h1.2 with ⟨rfl, _⟩ | ⟨g, cap, cur, rfl, _, hg, _⟩
  · cases hk
  rcases h2.2 with ⟨rfl, _⟩ | ⟨g', cap', cur', rfl, _, hg', _⟩
  · cases hk2
  cases hk
  cases hk2
  rw [hg] at hg'
  simp only [Option.some.injEq, Obj.cells.injEq] at hg'
  exact hne hg'.2.1
theorem rows_shape {b : Nat} {e : TypeId} {c n : Nat} {v : Value} {xs : List Value} {w : World} (h : w.ownsRow b e c v n xs) : ∃ a cap, v = .slice a n cap := by
  rcases h.2 with ⟨rfl, rfl⟩ | ⟨g, cap, cur, rfl, _⟩
  · exact ⟨none, 0, rfl⟩
  · exact ⟨_, _, rfl⟩
theorem IzG.nil (base : Nat) (w : World) : IzG base (.slice none 0 0) [] [] w :=
  ⟨World.ownsRow_nil w base _ 1, rfl, fun i hi => by simp at hi, fun i j k hi => by simp at hi⟩
theorem rows_carry {b : Nat} {e : TypeId} {c n : Nat} {v : Value} {xs : List Value} {w w' : World} (h : w.ownsRow b e c v n xs) (g : ∀ k, v.ownBlock = some k → k < w.heap.size → w'.heap[k]? = w.heap[k]?) : w'.ownsRow b e c v n xs := by
  refine ⟨h.1, h.2.imp id ?_⟩
  rintro ⟨g0, cap, cur, h1, h2, h3, h4⟩
  exact ⟨g0, cap, cur, h1, h2, by rw [g g0 (by rw [h1]; rfl) (Array.getElem?_eq_some_iff.1 h3).1]; exact h3, h4⟩
theorem IzG.below (h : IzG base v vs ls wr) (g : Below wr.heap.size wr wd) : IzG base v vs ls wd :=
  ⟨rows_carry h.outer fun k _ hk => g.block k hk, h.len, fun i hi => (h.row i hi).carry fun k _ hk => g.block k hk, h.apart⟩
/-- What lies elsewhere is turned. -/
theorem IzG.other (h : IzG base v vs ls wr) (g : ∀ k, base ≤ k → k < wr.heap.size → wd.heap[k]? = wr.heap[k]?) : IzG base v vs ls wd :=
  ⟨rows_carry h.outer fun k hk hl => g k (World.ownsRow.lt h.outer k hk).1 hl, h.len, fun i hi => (h.row i hi).carry fun k hk hl => g k ((h.row i hi).lt k hk).1 hl, h.apart⟩
/-- One list more: its row u is new, its header was put behind the headers. -/
theorem IzG.add (h : IzG base v vs ls wr) (hb : base ≤ wr.heap.size) (g1 : Below wr.heap.size wr wd) (hu : ItRow wr.heap.size wd u l) (ho : wx.ownsRow base 111 1 v' (ls.length + 1) (vs ++ [u])) (g2 : ∀ k, v.ownBlock ≠ some k → k < wd.heap.size → wx.heap[k]? = wd.heap[k]?) :
    IzG base v' (vs ++ [u]) (ls ++ [l]) wx := by
  have hd := h.below g1
  have hl := h.len
  have e1 : ∀ i, i < ls.length → izV (vs ++ [u]) i = izV vs i := fun i hi => izV_old (by omega)
  have e2 : izV (vs ++ [u]) ls.length = u := by rw [← hl]; exact izV_new
  have f1 : ∀ i, i < ls.length → izAt (ls ++ [l]) i = izAt ls i := fun i hi => by unfold izAt; rw [List.getElem?_append_left hi]
  have f2 : izAt (ls ++ [l]) ls.length = l := by simp [izAt]
  refine ⟨by simpa using ho, by simp [hl], fun i hi => ?_, fun i j k hi hj hne h1 h2 => ?_⟩
  · rw [List.length_append, List.length_singleton] at hi
    by_cases e : i = ls.length
    · subst e
      rw [e2, f2]
      exact (hu.carry fun k hk hlt => g2 k (fun q => by have a1 := (hu.lt k hk).1; have a2 := (World.ownsRow.lt h.outer k q).2; omega) hlt).mono hb
    · rw [e1 i (by omega), f1 i (by omega)]
      refine (hd.row i (by omega)).carry fun k hk hlt => g2 k (fun q => ?_) hlt
      exact rows_unlike hd.outer (hd.row i (by omega)) izTypes k q hk
  · rw [List.length_append, List.length_singleton] at hi hj
    have new : ∀ i, i < ls.length → (izV vs i).ownBlock = some k → u.ownBlock ≠ some k := fun i hi a1 a2 => by
      have b1 := ((h.row i hi).lt k a1).2
      have b2 := (hu.lt k a2).1
      omega
    by_cases ei : i = ls.length
    · subst ei
      rw [e2] at h1
      rw [e1 j (by omega)] at h2
      exact new j (by omega) h2 h1
    · rw [e1 i (by omega)] at h1
      by_cases ej : j = ls.length
      · subst ej
        rw [e2] at h2
        exact new i (by omega) h1 h2
      · rw [e1 j (by omega)] at h2
        exact h.apart i j k (by omega) (by omega) hne h1 h2
/-- One list in the place of another: it lies where that lay, or behind all. -/
theorem IzG.set (h : IzG base v vs ls wd) {j : Nat} (hj : j < ls.length) (hu : ItRow base wx u l) (g2 : ∀ k, (izV vs j).ownBlock ≠ some k → k < wd.heap.size → wx.heap[k]? = wd.heap[k]?) (hw : ∀ k, u.ownBlock = some k → (izV vs j).ownBlock = some k ∨ wd.heap.size ≤ k) {g cap : Nat} (hv : v = .slice (some ⟨g, 0, none⟩) ls.length cap) :
    IzG base v (vs.set j u) (ls.set j l) (wx.setCell ⟨g, j, none⟩ u) := by
  have hl := h.len
  have ho : wx.ownsRow base 111 1 v ls.length vs := rows_carry h.outer fun k hk hlt => g2 k (fun q => rows_unlike h.outer (h.row j hj) izTypes k hk q) hlt
  have e1 : ∀ i, i ≠ j → izV (vs.set j u) i = izV vs i := fun i hi => by unfold izV; rw [List.getElem?_set_ne (fun e => hi e.symm)]
  have e2 : izV (vs.set j u) j = u := by unfold izV; rw [List.getElem?_set_self (by omega)]; rfl
  have f1 : ∀ i, i ≠ j → izAt (ls.set j l) i = izAt ls i := fun i hi => by unfold izAt; rw [List.getElem?_set_ne (fun e => hi e.symm)]
  have f2 : izAt (ls.set j l) j = l := by unfold izAt; rw [List.getElem?_set_self hj]; rfl
  have oth : ∀ y, y ≠ g → (wx.setCell ⟨g, j, none⟩ u).heap[y]? = wx.heap[y]? := fun y hy => Below.heap_setCell _ _ _ _ hy
  have hvb : v.ownBlock = some g := by rw [hv]; rfl
  have old : ∀ i, i < ls.length → i ≠ j → ItRow base wx (izV vs i) (izAt ls i) := fun i hi hne => (h.row i hi).carry fun k hk hlt => g2 k (h.apart i j k hi hj hne hk) hlt
  refine ⟨?_, by rw [List.length_set, List.length_set, hl], fun i hi => ?_, fun i k y hi hk hne h1 h2 => ?_⟩
  · rw [List.length_set]
    rw [hv] at ho ⊢
    exact (ho.stored j u).1
  · rw [List.length_set] at hi
    by_cases e : i = j
    · subst e
      rw [e2, f2]
      exact hu.carry fun k hk _ => oth k fun q => rows_unlike ho hu izTypes k (by rw [hvb, q]) hk
    · rw [e1 i e, f1 i e]
      exact (old i hi e).carry fun k hk _ => oth k fun q => rows_unlike ho (old i hi e) izTypes k (by rw [hvb, q]) hk
  · rw [List.length_set] at hi hk
    have new : ∀ i, i < ls.length → i ≠ j → (izV vs i).ownBlock = some y → u.ownBlock ≠ some y := fun i hi hne a1 a2 => by
      rcases hw y a2 with a3 | a3
      · exact h.apart i j y hi hj hne a1 a3
      · have := ((h.row i hi).lt y a1).2
        omega
    by_cases ei : i = j
    · subst ei
      rw [e2] at h1
      rw [e1 k (fun e => hne e.symm)] at h2
      exact new k hk (fun e => hne e.symm) h2 h1
    · rw [e1 i ei] at h1
      by_cases ek : k = j
      · subst ek
        rw [e2] at h2
        exact new i hi ei h1 h2
      · rw [e1 k ek] at h2
        exact h.apart i k y hi hk hne h1 h2
theorem IzG.done (h : IzG base v vs ls wr) : IzV base wr.heap.size wr v vs ls := by
  refine ⟨SlIn.of_row h.outer (fun k hk => (World.ownsRow.lt h.outer k hk).2) (Nat.le_refl _), h.len, fun i hi => ItIn.of_row (h.row i hi) (fun k hk => ((h.row i hi).lt k hk).2) (Nat.le_refl _), fun i hi => ?_, fun i j k o hi hj hne h1 h2 => ?_, fun i k o hi h1 h2 => ?_⟩
  · obtain ⟨a, c, e⟩ := (h.row i hi).shape
    have hr := h.row i hi
    rw [e] at hr
    exact ⟨a, c, e, hr.cap, hr.nilCap⟩
  · exact h.apart i j k hi hj hne (izOwn h1) (izOwn h2)
  · exact rows_unlike h.outer (h.row i hi) izTypes k (izOwn h2) (izOwn h1)
end
/-- A list put behind a list of the call's own, as a step of a region that draws. -/
theorem it_step_app {ops : Array Oper} {o : Oper} {a : Act} {w : World} {K : Act → World → Prop} {Q : Exit → Act → World → Prop} {E : Prop} (hgd : o.guard = none) (s x : Operand)
    (ho : o.op = .call { callee := .builtin .append, args := #[s, x], argTypes := #[111, 111] })
    (base : Nat) (v : Value) (L : List It) (a0 : Option Addr) (m c : Nat) (M : List It) (hm : M.length = m) (hs : a.eval s = v) (hx : a.eval x = .slice a0 m c) (hr : ItRow base w v L) (hM : ItsAt w a0 M) (hn : a0 = none → c = 0)
    (hl : L.length + M.length ≤ 2097152) (hb : base ≤ w.heap.size)
    (h : ∀ v' w', ItRow base w' v' (L ++ M) → Below base w w' → w.grownBy w' v.ownBlock → (v' = .slice none 0 0 → v = .slice none 0 0) → K (a.put o.dst v') w') :
    if Region.wanted o (yielded ops a.tmps) = true then Oper.wp Tryz.prog o a w K Q else E := by
  rw [if_pos (by simp [Region.wanted, hgd])]
  exact it_op_app s x ho base v L a0 m c M hm hs hx hr hM hn hl hb h
/-- One header more, as a step of a region that draws. -/
theorem iz_step_one {ops : Array Oper} {o : Oper} {a : Act} {w wx : World} {K : Act → World → Prop} {Q : Exit → Act → World → Prop} {E : Prop} (hgd : o.guard = none) (s x : Operand)
    (ho : o.op = .call { callee := .builtin .append, args := #[s, x], argTypes := #[42, 42] })
    (base : Nat) (v : Value) (k : Nat) (vs : List Value) (u : Value) (hu : u.oneCell' = true) (hwx : wx = w.alloc (.cells #[u] 111)) (hs : a.eval s = v) (hrow : w.ownsRow base 111 1 v k vs) {n : Nat} (hx : a.eval x = .slice (some ⟨n, 0, none⟩) 1 1) (hn : n = w.heap.size)
    (hlen : k ≤ 1048576) (hb : base ≤ w.heap.size)
    (h : ∀ v' w', w'.ownsRow base 111 1 v' (k + 1) (vs ++ [u]) → Below base w w' → (∀ k, v.ownBlock ≠ some k → k < w.heap.size → w'.heap[k]? = w.heap[k]?) → K (a.put o.dst v') w') :
    if Region.wanted o (yielded ops a.tmps) = true then Oper.wp Tryz.prog o a wx K Q else E := by
  subst hwx
  subst hn
  rw [if_pos (by simp [Region.wanted, hgd])]
  obtain ⟨i0, hi, hz0, hz1, hz2⟩ := info_parts izInfo
  obtain ⟨v', w', hrun, h1, h2, _⟩ := run_append_own (P := Tryz.prog) (w.alloc (.cells #[u] 111)) base 42 o.type 111 i0 (.slice none 0 0) 1 24 Tryz.underlying42 hi hz0 hz1 hz2 rfl (by decide) v _ _ (World.ownsRow.alloc hrow _) ⟨w.heap.size, 0, none⟩ 1 1 [u] rfl
    (by intro j y hj
        match j, hj with
        | 0, hj => simp at hj; subst hj; simp [Addr.add]) (by intro y hy; simp at hy; subst hy; exact hu) (by unfold maxLen; omega) (by omega) (by simp; omega)
  unfold Oper.wp
  simp [execOp, ho, resolve, invoke, builtin, hs, hx, hrun, Result.andThen]
  refine h v' w' h1 ?_ ?_
  · exact ((Below.refl base w).alloc hb _).grown h2 (by simp; omega) (fun j hj => (World.ownsRow.lt hrow j hj).1)
  · intro j hj hl
    rw [h2.block j (by simp; omega) (fun e => hj e.symm), Below.heap_alloc _ _ _ hl]
end Go.Proofs.YtgebghkcikmfaaaGreatDoor

/-
  Rows as plain data: when they are right, what is pushed and popped, counts and weights. By the verifier.
-/
namespace Go.Proofs.YtgebghkcikmfaaaGreatDoor
open Go.RowKit

/-- A right item. -/
def It.ok (i : It) : Bool := inB 1 1000000 i.id && (inB 1 100000 i.size && inB 0 1099511627776 i.tm)
/-- All items right, no id twice, no more than so many. -/
def goodIts (most : Int) (l : List It) : Prop := (∀ x ∈ l, x.ok = true) ∧ (l.map It.id).Nodup ∧ (l.length : Int) ≤ most
theorem goodIts.left {most : Int} {a b : List It} (h : goodIts most (a ++ b)) : goodIts most a := by
  refine ⟨fun x hx => h.1 x (List.mem_append_left _ hx), ?_, ?_⟩
  · have := h.2.1
    rw [List.map_append] at this
    exact (List.nodup_append.1 this).1
  · have := h.2.2
    simp at this
    omega
theorem goodIts.nil {most : Int} (h : 0 ≤ most) : goodIts most [] := ⟨by simp, by simp, by simpa using h⟩
theorem goodIts.one {most : Int} {a : List It} {x : It} (h : goodIts most a) : goodIts most (a ++ [x]) ↔ x.ok = true ∧ x.id ∉ a.map It.id ∧ (a.length : Int) < most := by
  constructor
  · intro g
    refine ⟨g.1 x (by simp), ?_, ?_⟩
    · have := g.2.1
      rw [List.map_append, List.nodup_append] at this
      intro hm
      exact this.2.2 _ hm _ (by simp) rfl
    · have := g.2.2
      simp at this
      omega
  · rintro ⟨h1, h2, h3⟩
    refine ⟨?_, ?_, ?_⟩
    · intro y hy
      rcases List.mem_append.1 hy with hy | hy
      · exact h.1 y hy
      · rw [List.mem_singleton.1 hy]; exact h1
    · rw [List.map_append, List.nodup_append]
      refine ⟨h.2.1, by simp, ?_⟩
      intro y hy z hz e
      simp at hz
      subst hz
      subst e
      exact h2 hy
    · simp
      omega
/-- All of them behind each other. -/
def Rw.all (r : Rw) : List It := r.lists.flatten
/-- Those of the first i lists, and k of the next one. -/
def Rw.pre (r : Rw) (i k : Nat) : List It := (r.lists.take i).flatten ++ (izAt r.lists i).take k
theorem pre_zero (r : Rw) : r.pre 0 0 = [] := by simp [Rw.pre]
theorem pre_next {r : Rw} {i : Nat} (h : i < r.lists.length) : r.pre (i + 1) 0 = r.pre i (izAt r.lists i).length := by
  unfold Rw.pre
  rw [List.take_succ_eq_append_getElem h, izAt_lt h, List.take_length, List.take_zero, List.append_nil, List.flatten_append]
  simp
theorem pre_step {r : Rw} {i k : Nat} (hk : k < (izAt r.lists i).length) : r.pre i (k + 1) = r.pre i k ++ [itAt (izAt r.lists i) k] := by
  unfold Rw.pre
  rw [List.take_succ_eq_append_getElem hk, itAt_lt hk, List.append_assoc]
theorem pre_end (r : Rw) : r.pre r.lists.length 0 = r.all := by simp [Rw.pre, Rw.all]
theorem pre_all {r : Rw} {i : Nat} (h : i < r.lists.length) (k : Nat) : ∃ t, r.all = r.pre i k ++ t := by
  refine ⟨(izAt r.lists i).drop k ++ (r.lists.drop (i + 1)).flatten, ?_⟩
  unfold Rw.all Rw.pre
  have e : r.lists = r.lists.take i ++ izAt r.lists i :: r.lists.drop (i + 1) := by
    rw [izAt_lt h, ← List.drop_eq_getElem_cons h, List.take_append_drop]
  conv => lhs; rw [e]
  rw [List.flatten_append, List.flatten_cons, List.append_assoc]
  congr 1
  rw [← List.append_assoc, List.take_append_drop]
/-- Right rows. -/
def Rw.Right (r : Rw) : Prop := (1 ≤ r.most ∧ r.most ≤ 200) ∧ (1 ≤ r.lists.length ∧ r.lists.length ≤ 16) ∧ goodIts r.most r.all
/-- Right rows, as a flag. -/
def Rw.ok (r : Rw) : Bool := (inB 1 200 r.most && decide (1 ≤ r.lists.length ∧ r.lists.length ≤ 16)) && (r.all.all It.ok && (decide (r.all.map It.id).Nodup && decide ((r.all.length : Int) ≤ r.most)))
theorem Rw.ok_iff {r : Rw} : r.ok = true ↔ r.Right := by
  unfold Rw.ok Rw.Right goodIts
  simp only [Bool.and_eq_true, inB_true, decide_eq_true_eq, List.all_eq_true]
  constructor
  · rintro ⟨⟨h1, h2⟩, h3, h4, h5⟩
    exact ⟨h1, h2, h3, h4, h5⟩
  · rintro ⟨h1, h2, h3, h4, h5⟩
    exact ⟨⟨h1, h2⟩, h3, h4, h5⟩
theorem Rw.ok_no {r : Rw} : r.ok = false ↔ ¬ r.Right := by rw [← Rw.ok_iff]; simp
theorem all_length (r : Rw) : r.all.length = izSum r.lists r.lists.length := by
  unfold Rw.all izSum
  rw [List.take_length, List.length_flatten]
theorem pre_no {r : Rw} {i k : Nat} (h : i < r.lists.length) (hn : ¬ goodIts r.most (r.pre i k)) : r.ok = false := by
  rw [Rw.ok_no]
  intro hr
  obtain ⟨t, ht⟩ := pre_all h k
  have := hr.2.2
  rw [ht] at this
  exact hn this.left
/-- Whether there is one of this id. -/
def Rw.has (r : Rw) (id : Int) : Bool := decide (id ∈ r.all.map It.id)
/-- Whether it may be pushed. -/
def Rw.mayPush (r : Rw) (row : Int) (i : It) : Bool := (decide (0 ≤ row) && decide (row < r.lists.length)) && (i.ok && (!r.has i.id && !decide ((izSum r.lists r.lists.length : Int) = r.most)))
/-- What is left when one is pushed. -/
def Rw.pushed (r : Rw) (row : Int) (i : It) : Rw :=
  if r.ok = true then (if r.mayPush row i = true then ⟨r.most, r.lists.set row.toNat (izAt r.lists row.toNat ++ [i])⟩ else r) else ⟨0, []⟩
def Rw.pushedB (r : Rw) (row : Int) (i : It) : Bool := r.ok && r.mayPush row i
end Go.Proofs.YtgebghkcikmfaaaGreatDoor

/-
  Numbers within bounds, the model's way. By the verifier.
-/
namespace Go.Proofs.YtgebghkcikmfaaaGreatDoor
open Go.RowKit

theorem ret_bool {a b : Bool} (h : a = b) : Ending.returned (.bool a) = .returned (.bool b) := by rw [h]
theorem ret_num {a b : Int} (h : a = b) : Ending.returned (.int .i64 a) = .returned (.int .i64 b) := by rw [h]
theorem specIn (n lo hi : Int) (w : World) :
    Calls Tryz.prog 72 #[.int .i64 n, .int .i64 lo, .int .i64 hi] w fun e w' => e = .returned (.bool (inB lo hi n)) ∧ w' = w := by
  by_cases h0 : lo ≤ n
  · by_cases h1 : n ≤ hi
    · have h : inB lo hi n = true := by rw [inB_true]; omega
      rw [h]
      go_enter Tryz.func72, Tryz.ntmps72
      go_wp2
      go_ret
      exact ⟨rfl, rfl⟩
    · have h : inB lo hi n = false := by rw [inB_false]; omega
      rw [h]
      go_enter Tryz.func72, Tryz.ntmps72
      go_wp2
      go_ret
      exact ⟨rfl, rfl⟩
  · have h : inB lo hi n = false := by rw [inB_false]; omega
    rw [h]
    go_enter Tryz.func72, Tryz.ntmps72
    go_wp2
    go_ret
    exact ⟨rfl, rfl⟩
end Go.Proofs.YtgebghkcikmfaaaGreatDoor

/-
  Numbers within bounds, the program's way; numbers that lie in cells. By the verifier.
-/
namespace Go.Proofs.YtgebghkcikmfaaaGreatDoor
open Go.RowKit

theorem all_take_succ' (p : Int → Bool) (zs : List Int) (k : Nat) (hk : k < zs.length) :
    (zs.take (k + 1)).all p = ((zs.take k).all p && p (zs[k]?.getD 0)) := by
  rw [List.take_succ_eq_append_getElem hk, List.all_append]; simp [List.getElem?_eq_getElem hk]
theorem all_hit' (p : Int → Bool) (zs : List Int) (k : Nat) (hk : k < zs.length) (h : p (zs[k]?.getD 0) = false) : zs.all p = false := by
  rw [List.all_eq_false]
  exact ⟨zs[k], List.getElem_mem hk, by simp [List.getElem?_eq_getElem hk] at h; simp [h]⟩

theorem implUpTo (most : Int) (a : Option Addr) (cap : Nat) (zs : List Int) (w : World) (hbig : zs.length ≤ 1048576) (hc : Hid (IntsAt w a zs)) :
    Calls Tryz.prog 94 #[.int .i64 most, .slice a zs.length cap] w fun e w' => e = .returned (.bool (zs.all (inB 0 most))) ∧ w' = w := by
  obtain ⟨len, hlen⟩ : ∃ n, zs.length = n := ⟨_, rfl⟩
  rw [hlen] at hbig ⊢
  have Hlen : Hid (zs.length = len) := hlen
  clear hlen
  go_enter Tryz.func94, Tryz.ntmps94
  go_wp2
  go_loop [9] (fun i => ∃ k : Nat, k ≤ len ∧ i = .int .i64 k ∧ (zs.take k).all (inB 0 most) = true) (fun i => len - (intOf i).toNat)
  case atStart => exact ⟨0, Nat.zero_le _, rfl, rfl⟩
  case round =>
    obtain ⟨k, hk, rfl, hall⟩ := hrel
    have Hall : Hid ((zs.take k).all (inB 0 most) = true) := hall
    clear hall
    by_cases hlt : k < len
    · obtain ⟨b, off, ha, hb, hcell⟩ := hc.out k (by rw [Hlen.out]; exact hlt)
      subst ha
      have hs := all_take_succ' (inB 0 most) zs k (by rw [Hlen.out]; exact hlt)
      have hh := all_hit' (inB 0 most) zs k (by rw [Hlen.out]; exact hlt)
      rw [Hall.out] at hs
      generalize zs[k]?.getD 0 = z at hcell hs hh
      have Hs : Hid ((zs.take (k + 1)).all (inB 0 most) = (true && inB 0 most z)) := hs
      have Hh : Hid (inB 0 most z = false → zs.all (inB 0 most) = false) := hh
      clear hs hh
      by_cases z0 : 0 ≤ z
      · by_cases z1 : z ≤ most
        · have hok : Hid (inB 0 most z = true) := by show inB 0 most z = true; rw [inB_true]; omega
          go_wp2
          go_round
          case rel => exact ⟨k + 1, by omega, by go_num, by rw [Hs.out, hok.out]; rfl⟩
          case measure => simp [intOf]; omega
        · have hok : Hid (inB 0 most z = false) := by show inB 0 most z = false; rw [inB_false]; omega
          go_wp2
          go_ret
          rw [Hh.out hok.out]
          exact ⟨rfl, rfl⟩
      · have hok : Hid (inB 0 most z = false) := by show inB 0 most z = false; rw [inB_false]; omega
        go_wp2
        go_ret
        rw [Hh.out hok.out]
        exact ⟨rfl, rfl⟩
    · go_wp2
      go_ret
      have : zs.take k = zs := List.take_of_length_le (by rw [Hlen.out]; omega)
      rw [← this, Hall.out]
      exact ⟨rfl, rfl⟩

theorem implUpTo1 (most n : Int) (w : World) (B : Nat) (hB : B = w.heap.size) :
    Calls Tryz.prog 94 #[.int .i64 most, .slice (some ⟨B, 0, none⟩) 1 1] (w.alloc (.cells #[.int .i64 n] 2)) fun e w' => e = .returned (.bool (inB 0 most n)) ∧ w' = w.alloc (.cells #[.int .i64 n] 2) := by
  have h := implUpTo most (some ⟨B, 0, none⟩) 1 [n] (w.alloc (.cells #[.int .i64 n] 2)) (by simp) (show Hid _ from ints_new w 2 [n] #[.int .i64 n] B hB rfl)
  simpa using h
end Go.Proofs.YtgebghkcikmfaaaGreatDoor

import Derived.Test.YtgebghkcikmfaaaGreatDoorQJ3SrPlain
import Derived.Test.YtgebghkcikmfaaaGreatDoorQJ0NumUp
import Derived.Test.YtgebghkcikmfaaaGreatDoorQJ5StepRow
import Derived.Laws.CopyOwn
/-
  A field of a gate replaced by one that was laid later. By the verifier, by program.
-/
namespace Go.Proofs.YtgebghkcikmfaaaGreatDoor
open Go.RowKit
section
variable {lo hi b t c : Nat} {w : World} {a : Option Addr} {x : Ga} {f : Gf} {g : Gt}
theorem Gf.In.rep1 (h : f.In lo hi) (hb : hi ≤ b) (hl : lo ≤ b) (ht : b ≤ t) : ({ f with b1 := b, t1 := t } : Gf).In lo t := by
  obtain ⟨l1, h1, l2, h2, l3, h3, l4, h4, l5, h5, l6, h6, l7, h7⟩ := h
  constructor <;> (try simp only) <;> omega
theorem Gf.Apart.rep1 (ap : f.Apart) (h : f.In lo hi) (hb : hi ≤ b) : ({ f with b1 := b, t1 := t } : Gf).Apart := by
  obtain ⟨l1, h1, l2, h2, l3, h3, l4, h4, l5, h5, l6, h6, l7, h7⟩ := h
  obtain ⟨p12, p13, p14, p15, p16, p17, p23, p24, p25, p26, p27, p34, p35, p36, p37, p45, p46, p47, p56, p57, p67⟩ := ap
  constructor <;> (try simp only) <;> omega
theorem Gf.In.rep2 (h : f.In lo hi) (hb : hi ≤ b) (hl : lo ≤ b) (ht : b ≤ t) : ({ f with b2 := b, t2 := t } : Gf).In lo t := by
  obtain ⟨l1, h1, l2, h2, l3, h3, l4, h4, l5, h5, l6, h6, l7, h7⟩ := h
  constructor <;> (try simp only) <;> omega
theorem Gf.Apart.rep2 (ap : f.Apart) (h : f.In lo hi) (hb : hi ≤ b) : ({ f with b2 := b, t2 := t } : Gf).Apart := by
  obtain ⟨l1, h1, l2, h2, l3, h3, l4, h4, l5, h5, l6, h6, l7, h7⟩ := h
  obtain ⟨p12, p13, p14, p15, p16, p17, p23, p24, p25, p26, p27, p34, p35, p36, p37, p45, p46, p47, p56, p57, p67⟩ := ap
  constructor <;> (try simp only) <;> omega
theorem Gf.Apart.rep3 (ap : f.Apart) (h : f.In lo hi) (hb : hi ≤ b) : ({ f with b3 := b, t3 := t } : Gf).Apart := by
  obtain ⟨l1, h1, l2, h2, l3, h3, l4, h4, l5, h5, l6, h6, l7, h7⟩ := h
  obtain ⟨p12, p13, p14, p15, p16, p17, p23, p24, p25, p26, p27, p34, p35, p36, p37, p45, p46, p47, p56, p57, p67⟩ := ap
  constructor <;> (try simp only) <;> omega
theorem GtW.rep5 (h : GtW w x f g) {l : Rw} (r : RwIn b t w (l.val a c) l) : GtW w { x with a5 := a, c5 := c } { f with b5 := b, t5 := t } { g with rows := l } :=
  ⟨h.routes, h.rules, h.tree, h.leaves, r, h.steers, h.fair⟩
theorem Gf.In.rep5 (h : f.In lo hi) (hb : hi ≤ b) (hl : lo ≤ b) (ht : b ≤ t) : ({ f with b5 := b, t5 := t } : Gf).In lo t := by
  obtain ⟨l1, h1, l2, h2, l3, h3, l4, h4, l5, h5, l6, h6, l7, h7⟩ := h
  constructor <;> (try simp only) <;> omega
theorem Gf.Apart.rep5 (ap : f.Apart) (h : f.In lo hi) (hb : hi ≤ b) : ({ f with b5 := b, t5 := t } : Gf).Apart := by
  obtain ⟨l1, h1, l2, h2, l3, h3, l4, h4, l5, h5, l6, h6, l7, h7⟩ := h
  obtain ⟨p12, p13, p14, p15, p16, p17, p23, p24, p25, p26, p27, p34, p35, p36, p37, p45, p46, p47, p56, p57, p67⟩ := ap
  constructor <;> (try simp only) <;> omega
theorem GtW.rep7 (h : GtW w x f g) {l : Fs} (r : FsIn b t w (l.val a c) l) : GtW w { x with a7 := a, c7 := c } { f with b7 := b, t7 := t } { g with fair := l } :=
  ⟨h.routes, h.rules, h.tree, h.leaves, h.rows, h.steers, r⟩
theorem Gf.In.rep7 (h : f.In lo hi) (hb : hi ≤ b) (hl : lo ≤ b) (ht : b ≤ t) : ({ f with b7 := b, t7 := t } : Gf).In lo t := by
  obtain ⟨l1, h1, l2, h2, l3, h3, l4, h4, l5, h5, l6, h6, l7, h7⟩ := h
  constructor <;> (try simp only) <;> omega
theorem Gf.Apart.rep7 (ap : f.Apart) (h : f.In lo hi) (hb : hi ≤ b) : ({ f with b7 := b, t7 := t } : Gf).Apart := by
  obtain ⟨l1, h1, l2, h2, l3, h3, l4, h4, l5, h5, l6, h6, l7, h7⟩ := h
  obtain ⟨p12, p13, p14, p15, p16, p17, p23, p24, p25, p26, p27, p34, p35, p36, p37, p45, p46, p47, p56, p57, p67⟩ := ap
  constructor <;> (try simp only) <;> omega
end
end Go.Proofs.YtgebghkcikmfaaaGreatDoor

/-
  A gate whose memory lies in intervals: a steer put in place, its variable put. By the verifier.
-/
namespace Go.Proofs.YtgebghkcikmfaaaGreatDoor
open Go.RowKit

/-- No interval holds this block. -/
structure Gf.Off (f : Gf) (B : Nat) : Prop where
  o1 : f.t1 ≤ B ∨ B < f.b1
  o2 : f.t2 ≤ B ∨ B < f.b2
  o3 : f.t3 ≤ B ∨ B < f.b3
  o4 : f.t4 ≤ B ∨ B < f.b4
  o5 : f.t5 ≤ B ∨ B < f.b5
  o6 : f.t6 ≤ B ∨ B < f.b6
  o7 : f.t7 ≤ B ∨ B < f.b7
section
variable {lo hi B b t c : Nat} {w w' : World} {a : Option Addr} {x : Ga} {f : Gf} {g : Gt}
theorem Gf.Off.of_in (i : f.In lo hi) (h : hi ≤ B) : f.Off B := by
  obtain ⟨l1, h1, l2, h2, l3, h3, l4, h4, l5, h5, l6, h6, l7, h7⟩ := i
  constructor <;> left <;> omega
theorem Gf.Off.rep5 (o : f.Off B) (h : B < b) : ({ f with b5 := b, t5 := t } : Gf).Off B := ⟨o.1, o.2, o.3, o.4, .inr h, o.6, o.7⟩
theorem Gf.Off.rep7 (o : f.Off B) (h : B < b) : ({ f with b7 := b, t7 := t } : Gf).Off B := ⟨o.1, o.2, o.3, o.4, o.5, o.6, .inr h⟩
/-- What is put in a block that no interval holds leaves all as it was. -/
theorem GtW.off (h : GtW w x f g) (o : f.Off B) (i : f.In lo t) (ht : t ≤ w.heap.size) (hs : w.heap.size ≤ w'.heap.size) (hk : ∀ k, k ≠ B → k < w.heap.size → w'.heap[k]? = w.heap[k]?) : GtW w' x f g := by
  obtain ⟨g1, g2, g3, g4, g5, g6, g7⟩ := h
  obtain ⟨l1, h1, l2, h2, l3, h3, l4, h4, l5, h5, l6, h6, l7, h7⟩ := i
  obtain ⟨o1, o2, o3, o4, o5, o6, o7⟩ := o
  exact ⟨g1.keep hs fun k k1 k2 => hk k (by omega) (by omega), g2.keep hs fun k k1 k2 => hk k (by omega) (by omega), g3.keep hs fun k k1 k2 => hk k (by omega) (by omega), g4.keep hs fun k k1 k2 => hk k (by omega) (by omega), g5.keep hs fun k k1 k2 => hk k (by omega) (by omega), g6.keep hs fun k k1 k2 => hk k (by omega) (by omega), g7.keep hs fun k k1 k2 => hk k (by omega) (by omega)⟩
/-- The same, of blocks from lo on. -/
theorem GtW.off2 (h : GtW w x f g) (o : f.Off B) (i : f.In lo t) (ht : t ≤ w.heap.size) (hs : w.heap.size ≤ w'.heap.size) (hk : ∀ k, lo ≤ k → k ≠ B → k < w.heap.size → w'.heap[k]? = w.heap[k]?) : GtW w' x f g := by
  obtain ⟨g1, g2, g3, g4, g5, g6, g7⟩ := h
  obtain ⟨l1, h1, l2, h2, l3, h3, l4, h4, l5, h5, l6, h6, l7, h7⟩ := i
  obtain ⟨o1, o2, o3, o4, o5, o6, o7⟩ := o
  exact ⟨g1.keep hs fun k k1 k2 => hk k (by omega) (by omega) (by omega), g2.keep hs fun k k1 k2 => hk k (by omega) (by omega) (by omega), g3.keep hs fun k k1 k2 => hk k (by omega) (by omega) (by omega), g4.keep hs fun k k1 k2 => hk k (by omega) (by omega) (by omega), g5.keep hs fun k k1 k2 => hk k (by omega) (by omega) (by omega), g6.keep hs fun k k1 k2 => hk k (by omega) (by omega) (by omega), g7.keep hs fun k k1 k2 => hk k (by omega) (by omega) (by omega)⟩
theorem GtW.steerSpot (h : GtW w x f g) {k : Nat} (hk : k < g.steers.length) : ∃ sk off, x.a6 = some ⟨sk, off, none⟩ ∧ f.b6 ≤ sk ∧ sk < f.t6 ∧ (w.cell? ⟨sk, off + k * 3, none⟩ = some (.int .i64 (srAt g.steers k).target) ∧ w.cell? ⟨sk, off + k * 3 + 1, none⟩ = some (.int .i64 (srAt g.steers k).old) ∧ w.cell? ⟨sk, off + k * 3 + 2, none⟩ = some (.int .i64 (srAt g.steers k).prob)) ∧ w.frozen? ⟨sk, off + k * 3, none⟩ = false ∧ w.frozen? ⟨sk, off + k * 3 + 1, none⟩ = false ∧ w.frozen? ⟨sk, off + k * 3 + 2, none⟩ = false := by
  obtain ⟨h1, -⟩ := h.steers
  have hl := srcells_length g.steers
  obtain ⟨sk, off, e, b1, b2, b3⟩ := SlIn.some h1 (srcells_ne (by omega))
  obtain ⟨e0, e1, e2⟩ := srcells_get g.steers k hk
  rw [e] at h1
  have c0 := SlIn.cells h1 (k * 3) (by omega)
  have c1 := SlIn.cells h1 (k * 3 + 1) (by omega)
  have c2 := SlIn.cells h1 (k * 3 + 2) (by omega)
  rw [e0] at c0
  rw [e1] at c1
  rw [e2] at c2
  exact ⟨sk, off, e, b1, b2, ⟨c0.1, c1.1, c2.1⟩, c0.2, c1.2, c2.2⟩
end
end Go.Proofs.YtgebghkcikmfaaaGreatDoor

/-
  A gate in a variable, its memory in intervals; a variable that is laid while a call answers with memory. By the verifier.
-/
namespace Go.Proofs.YtgebghkcikmfaaaGreatDoor
open Go.RowKit

/-- A gate in a variable, each field's memory by its interval, behind what was done. -/
structure GoneW (lo B : Nat) (g : Gt) (w w' : World) : Prop where
  ex : ∃ x f, Boxed w' B (g.cells x) 50 ∧ GtW w' x f g ∧ f.In lo w'.heap.size ∧ f.Apart ∧ ∀ j, B < j → j < w.heap.size → f.Off j
  bel : Below lo w w'
  hi : ∀ j, B < j → j < w.heap.size → w'.heap[j]? = w.heap[j]?
def Gt.mix2 (g : Gt) (fs : Fs) (rw : Rw) (b c : Bool) : Gt := { g with fair := bif b then fs else g.fair, rows := bif c then rw else g.rows }
def Ga.mix2 (x : Ga) (p7 : Option Addr) (c7 : Nat) (p5 : Option Addr) (c5 : Nat) (b c : Bool) : Ga := { x with a7 := bif b then p7 else x.a7, c7 := bif b then c7 else x.c7, a5 := bif c then p5 else x.a5, c5 := bif c then c5 else x.c5 }
/-- Where an answer lies, and a variable m. -/
structure PuY where
  p : Option Addr
  c : Nat
  m : Nat
  b : Nat
  t : Nat
/-- While a call answers with memory from b up to t, and a variable m is laid and stored. -/
structure PuI (wd : World) (S : Nat) (cs : Array Value) (T : TypeId) (l16 l20 l21 : Bool) (y : PuY) (z : World) : Prop where
  bel : Below wd.heap.size wd z
  hS : S = wd.heap.size
  sb : S ≤ y.b
  bt : y.b ≤ y.t
  tx : y.t ≤ z.heap.size
  mS : l20 = true → S ≤ y.m ∧ y.m < z.heap.size
  far : l20 = true → y.t ≤ y.m ∨ y.m < y.b
  zero : l20 = true → l21 = false → Boxed z y.m #[.int .i64 0, .slice none 0 0] T
  full : l21 = true → Boxed z y.m cs T
section
variable {wd z z' : World} {S : Nat} {cs : Array Value} {T : TypeId} {l16 l20 l21 : Bool} {y : PuY}
theorem PuI.start (wd : World) {S : Nat} (hS : S = wd.heap.size) (cs : Array Value) (T : TypeId) (p : Option Addr) (c : Nat) : PuI wd S cs T false false false ⟨p, c, 0, S, S⟩ wd.drew :=
  ⟨(Below.refl _ _).drew, hS, Nat.le_refl _, Nat.le_refl _, Nat.le_of_eq hS, fun h => (by cases h), fun h => (by cases h), fun h => (by cases h), fun h => (by cases h)⟩
theorem PuI.below (h : PuI wd S cs T l16 l20 l21 y z) (q : Below z.heap.size z z') : PuI wd S cs T l16 l20 l21 y z' :=
  ⟨h.bel.trans (q.mono h.bel.size), h.hS, h.sb, h.bt, Nat.le_trans h.tx q.size, fun e => ⟨(h.mS e).1, Nat.lt_of_lt_of_le (h.mS e).2 q.size⟩, h.far, fun e1 e2 => (h.zero e1 e2).below (h.zero e1 e2).under q, fun e => (h.full e).below (h.full e).under q⟩
theorem PuI.push (h : PuI wd S cs T false l20 false y z) (q : Below z.heap.size z z') {p : Option Addr} {c : Nat} (ds : Array Value) : PuI wd S ds T true l20 false ⟨p, c, y.m, z.heap.size, z'.heap.size⟩ z' := by
  have k := h.below q
  exact ⟨k.bel, h.hS, by rw [h.hS]; exact h.bel.size, q.size, Nat.le_refl _, k.mS, fun e => .inr (h.mS e).2, k.zero, fun e => (by cases e)⟩
theorem PuI.box (h : PuI wd S cs T l16 false false y z) : PuI wd S cs T l16 true false ⟨y.p, y.c, z.heap.size, y.b, y.t⟩ (z.alloc (.cells #[.int .i64 0, .slice none 0 0] T)) := by
  have k := h.below ((Below.refl _ _).alloc (Nat.le_refl _) (.cells #[.int .i64 0, .slice none 0 0] T))
  exact ⟨k.bel, h.hS, h.sb, h.bt, k.tx, fun _ => ⟨by rw [h.hS]; exact h.bel.size, by simp⟩, fun _ => .inl h.tx, fun _ _ => Boxed.new _ _ _, fun e => (by cases e)⟩
theorem PuI.store (h : PuI wd S cs T l16 true false y z) : PuI wd S cs T l16 true true y (z.setRow y.m cs) := by
  have hz := h.zero rfl rfl
  have hm := h.mS rfl
  have e : (z.setRow y.m cs).heap.size = z.heap.size := size_setRow _ _ _
  exact ⟨below_setRow h.bel (by rw [← h.hS]; exact hm.1) _, h.hS, h.sb, h.bt, by rw [e]; exact h.tx, fun _ => ⟨hm.1, by rw [e]; exact hm.2⟩, h.far, fun _ e => (by cases e), fun _ => setRow_heap _ _ _ _ _ _ hz⟩
end
end Go.Proofs.YtgebghkcikmfaaaGreatDoor

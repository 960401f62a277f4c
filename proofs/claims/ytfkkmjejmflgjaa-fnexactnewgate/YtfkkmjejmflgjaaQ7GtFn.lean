import Derived.Test.YtfkkmjejmflgjaaQ5FwPlain
import Derived.Test.YtfkkmjejmflgjaaQ3RtNet
import Derived.Test.YtfkkmjejmflgjaaQ4RuV
import Derived.Test.YtfkkmjejmflgjaaQ2SsV
import Derived.Test.YtfkkmjejmflgjaaQ6RwFn
import Derived.Test.YtfkkmjejmflgjaaQ0SrPlain
import Derived.Test.YtfkkmjejmflgjaaQ1NdPlain
/-
  A record of a number and a list (Fairness) as plain data: cells that hold it, memory of the call's own. By the verifier, by program.
-/
namespace Go.Proofs.Ytfkkmjejmflgjaa
open Go.RowKit

structure Fs where
  now : Int
  flows : List Fw
/-- As a value. -/
def Fs.val (r : Fs) (a : Option Addr) (c : Nat) : Value := .agg #[.int .i64 r.now, .slice a r.flows.length c]
/-- A value that holds it. -/
def FsAt (w : World) (v : Value) (r : Fs) : Prop := ∃ a c, v = r.val a c ∧ FwsAt w a r.flows
/-- A value that holds it in memory from b up to t. -/
def FsIn (b t : Nat) (w : World) (v : Value) (r : Fs) : Prop := ∃ a c, v = r.val a c ∧ FwsIn b t w (.slice a r.flows.length c) r.flows
/-- How much it is. -/
def Fs.big (r : Fs) : Nat := r.flows.length + fwSum r.flows r.flows.length
section
variable {b t : Nat} {w w' : World} {v : Value} {r : Fs}
theorem FsIn.at (h : FsIn b t w v r) : FsAt w v r := by
  obtain ⟨a, c, e, h⟩ := h
  exact ⟨a, c, e, h.at⟩
theorem FsAt.below (h : FsAt w v r) (g : Below w.heap.size w w') : FsAt w' v r := by
  obtain ⟨a, c, e, h⟩ := h
  exact ⟨a, c, e, h.below g⟩
theorem FsIn.below (h : FsIn b t w v r) (g : Below w.heap.size w w') : FsIn b t w' v r := by
  obtain ⟨a, c, e, h⟩ := h
  exact ⟨a, c, e, h.below g⟩
theorem FsIn.keep (h : FsIn b t w v r) (hs : w.heap.size ≤ w'.heap.size) (hk : ∀ k, b ≤ k → k < t → w'.heap[k]? = w.heap[k]?) : FsIn b t w' v r := by
  obtain ⟨a, c, e, h⟩ := h
  exact ⟨a, c, e, h.keep hs hk⟩
theorem FsIn.wide {b' t' : Nat} (h : FsIn b t w v r) (hb : b' ≤ b) (ht : t ≤ t') (hs : t' ≤ w.heap.size) : FsIn b' t' w v r := by
  obtain ⟨a, c, e, h⟩ := h
  exact ⟨a, c, e, h.wide hb ht hs⟩
end
theorem Fs.small {r : Fs} (h : r.big ≤ 1048576) : r.flows.length ≤ 1048576 ∧ fwSum r.flows r.flows.length ≤ 1048576 ∧ ∀ k, k < r.flows.length → (fwAt r.flows k).sizes.length ≤ 1048576 := by
  unfold Fs.big at h
  refine ⟨by omega, by omega, fun k hk => ?_⟩
  have := fwSum_one hk
  omega
end Go.Proofs.Ytfkkmjejmflgjaa

/-
  A gate as plain data; its cells; what lies of it. By the verifier, by program.
-/
namespace Go.Proofs.Ytfkkmjejmflgjaa
open Go.RowKit

structure Gt where
  ln : Ln
  routes : List Rt
  rules : List Ru
  tree : List Nd
  leaves : List Int
  rows : Rw
  steers : List Sr
  fair : Fs
  next : Int
  draw : Int
/-- Where its lists lie. -/
structure Ga where
  a1 : Option Addr
  c1 : Nat
  a2 : Option Addr
  c2 : Nat
  a3 : Option Addr
  c3 : Nat
  a4 : Option Addr
  c4 : Nat
  a5 : Option Addr
  c5 : Nat
  a6 : Option Addr
  c6 : Nat
  a7 : Option Addr
  c7 : Nat
/-- From where up to where its memory lies. -/
structure Gf where
  b1 : Nat
  t1 : Nat
  b2 : Nat
  t2 : Nat
  b3 : Nat
  t3 : Nat
  b4 : Nat
  t4 : Nat
  b5 : Nat
  t5 : Nat
  b6 : Nat
  t6 : Nat
  b7 : Nat
  t7 : Nat
/-- Its cells. -/
def Gt.cells (g : Gt) (x : Ga) : Array Value := #[.int .i64 g.ln.kind, .int .i64 g.ln.extra, .int .i64 g.ln.least, .slice x.a1 g.routes.length x.c1, .slice x.a2 g.rules.length x.c2, .slice x.a3 g.tree.length x.c3, .slice x.a4 g.leaves.length x.c4, .int .i64 g.rows.most, .slice x.a5 g.rows.lists.length x.c5, .slice x.a6 g.steers.length x.c6, .int .i64 g.fair.now, .slice x.a7 g.fair.flows.length x.c7, .int .i64 g.next, .int .i64 g.draw]
def Gt.val (g : Gt) (x : Ga) : Value := .agg (g.cells x)
/-- How much it holds. -/
def Gt.big (g : Gt) : Nat := g.routes.length + g.rules.length + g.tree.length + g.leaves.length + g.rows.big + g.steers.length + g.fair.big
/-- What is read of it. -/
structure GtV (w : World) (x : Ga) (g : Gt) : Prop where
  routes : RtsV w (.slice x.a1 g.routes.length x.c1) g.routes
  rules : RusV w (.slice x.a2 g.rules.length x.c2) g.rules
  tree : NdsV w (.slice x.a3 g.tree.length x.c3) g.tree
  leaves : IntsV w (.slice x.a4 g.leaves.length x.c4) g.leaves
  rows : RwAt w (g.rows.val x.a5 x.c5) g.rows
  steers : SrsV w (.slice x.a6 g.steers.length x.c6) g.steers
  fair : FsAt w (g.fair.val x.a7 x.c7) g.fair
def GtAt (w : World) (v : Value) (g : Gt) : Prop := ∃ x, v = g.val x ∧ GtV w x g
/-- Its memory. -/
structure GtW (w : World) (x : Ga) (f : Gf) (g : Gt) : Prop where
  routes : RtsW f.b1 f.t1 w (.slice x.a1 g.routes.length x.c1) g.routes
  rules : RusW f.b2 f.t2 w (.slice x.a2 g.rules.length x.c2) g.rules
  tree : NdsW f.b3 f.t3 w (.slice x.a3 g.tree.length x.c3) g.tree
  leaves : IntsW f.b4 f.t4 w (.slice x.a4 g.leaves.length x.c4) g.leaves
  rows : RwIn f.b5 f.t5 w (g.rows.val x.a5 x.c5) g.rows
  steers : SrsW f.b6 f.t6 w (.slice x.a6 g.steers.length x.c6) g.steers
  fair : FsIn f.b7 f.t7 w (g.fair.val x.a7 x.c7) g.fair
/-- Between b and t. -/
structure Gf.In (f : Gf) (b t : Nat) : Prop where
  l1 : b ≤ f.b1
  h1 : f.t1 ≤ t
  l2 : b ≤ f.b2
  h2 : f.t2 ≤ t
  l3 : b ≤ f.b3
  h3 : f.t3 ≤ t
  l4 : b ≤ f.b4
  h4 : f.t4 ≤ t
  l5 : b ≤ f.b5
  h5 : f.t5 ≤ t
  l6 : b ≤ f.b6
  h6 : f.t6 ≤ t
  l7 : b ≤ f.b7
  h7 : f.t7 ≤ t
/-- No two at one place. -/
structure Gf.Apart (f : Gf) : Prop where
  p12 : f.t1 ≤ f.b2 ∨ f.t2 ≤ f.b1
  p13 : f.t1 ≤ f.b3 ∨ f.t3 ≤ f.b1
  p14 : f.t1 ≤ f.b4 ∨ f.t4 ≤ f.b1
  p15 : f.t1 ≤ f.b5 ∨ f.t5 ≤ f.b1
  p16 : f.t1 ≤ f.b6 ∨ f.t6 ≤ f.b1
  p17 : f.t1 ≤ f.b7 ∨ f.t7 ≤ f.b1
  p23 : f.t2 ≤ f.b3 ∨ f.t3 ≤ f.b2
  p24 : f.t2 ≤ f.b4 ∨ f.t4 ≤ f.b2
  p25 : f.t2 ≤ f.b5 ∨ f.t5 ≤ f.b2
  p26 : f.t2 ≤ f.b6 ∨ f.t6 ≤ f.b2
  p27 : f.t2 ≤ f.b7 ∨ f.t7 ≤ f.b2
  p34 : f.t3 ≤ f.b4 ∨ f.t4 ≤ f.b3
  p35 : f.t3 ≤ f.b5 ∨ f.t5 ≤ f.b3
  p36 : f.t3 ≤ f.b6 ∨ f.t6 ≤ f.b3
  p37 : f.t3 ≤ f.b7 ∨ f.t7 ≤ f.b3
  p45 : f.t4 ≤ f.b5 ∨ f.t5 ≤ f.b4
  p46 : f.t4 ≤ f.b6 ∨ f.t6 ≤ f.b4
  p47 : f.t4 ≤ f.b7 ∨ f.t7 ≤ f.b4
  p56 : f.t5 ≤ f.b6 ∨ f.t6 ≤ f.b5
  p57 : f.t5 ≤ f.b7 ∨ f.t7 ≤ f.b5
  p67 : f.t6 ≤ f.b7 ∨ f.t7 ≤ f.b6
def GtIn (b t : Nat) (w : World) (v : Value) (g : Gt) : Prop := ∃ x f, v = g.val x ∧ GtW w x f g ∧ f.In b t ∧ f.Apart ∧ t ≤ w.heap.size
section
variable {b t : Nat} {w w' : World} {v : Value} {x : Ga} {f : Gf} {g : Gt}
theorem GtV.below (h : GtV w x g) (q : Below w.heap.size w w') : GtV w' x g := ⟨h.routes.below q, h.rules.below q, h.tree.below q, h.leaves.below q, h.rows.below q, h.steers.below q, h.fair.below q⟩
theorem GtW.at (h : GtW w x f g) : GtV w x g := ⟨h.routes.at, h.rules.at, h.tree.at, h.leaves.at, h.rows.at, h.steers.at, h.fair.at⟩
theorem GtW.below (h : GtW w x f g) (q : Below w.heap.size w w') : GtW w' x f g := ⟨h.routes.below q, h.rules.below q, h.tree.below q, h.leaves.below q, h.rows.below q, h.steers.below q, h.fair.below q⟩
theorem GtW.keep (h : GtW w x f g) (i : f.In b t) (hs : w.heap.size ≤ w'.heap.size) (hk : ∀ k, b ≤ k → k < t → w'.heap[k]? = w.heap[k]?) : GtW w' x f g :=
  ⟨h.routes.keep hs (fun k k1 k2 => hk k (Nat.le_trans i.l1 k1) (Nat.lt_of_lt_of_le k2 i.h1)), h.rules.keep hs (fun k k1 k2 => hk k (Nat.le_trans i.l2 k1) (Nat.lt_of_lt_of_le k2 i.h2)), h.tree.keep hs (fun k k1 k2 => hk k (Nat.le_trans i.l3 k1) (Nat.lt_of_lt_of_le k2 i.h3)), h.leaves.keep hs (fun k k1 k2 => hk k (Nat.le_trans i.l4 k1) (Nat.lt_of_lt_of_le k2 i.h4)), h.rows.keep hs (fun k k1 k2 => hk k (Nat.le_trans i.l5 k1) (Nat.lt_of_lt_of_le k2 i.h5)), h.steers.keep hs (fun k k1 k2 => hk k (Nat.le_trans i.l6 k1) (Nat.lt_of_lt_of_le k2 i.h6)), h.fair.keep hs (fun k k1 k2 => hk k (Nat.le_trans i.l7 k1) (Nat.lt_of_lt_of_le k2 i.h7))⟩
theorem Gf.In.wide {b' t' : Nat} (i : f.In b t) (hb : b' ≤ b) (ht : t ≤ t') : f.In b' t' := ⟨Nat.le_trans hb i.l1, Nat.le_trans i.h1 ht, Nat.le_trans hb i.l2, Nat.le_trans i.h2 ht, Nat.le_trans hb i.l3, Nat.le_trans i.h3 ht, Nat.le_trans hb i.l4, Nat.le_trans i.h4 ht, Nat.le_trans hb i.l5, Nat.le_trans i.h5 ht, Nat.le_trans hb i.l6, Nat.le_trans i.h6 ht, Nat.le_trans hb i.l7, Nat.le_trans i.h7 ht⟩
theorem GtIn.at (h : GtIn b t w v g) : GtAt w v g := by
  obtain ⟨x, f, e, h, _⟩ := h
  exact ⟨x, e, h.at⟩
theorem GtAt.below (h : GtAt w v g) (q : Below w.heap.size w w') : GtAt w' v g := by
  obtain ⟨x, e, h⟩ := h
  exact ⟨x, e, h.below q⟩
theorem GtIn.below (h : GtIn b t w v g) (q : Below w.heap.size w w') : GtIn b t w' v g := by
  obtain ⟨x, f, e, h, i, a, s⟩ := h
  exact ⟨x, f, e, h.below q, i, a, Nat.le_trans s q.size⟩
theorem GtIn.keep (h : GtIn b t w v g) (hs : w.heap.size ≤ w'.heap.size) (hk : ∀ k, b ≤ k → k < t → w'.heap[k]? = w.heap[k]?) : GtIn b t w' v g := by
  obtain ⟨x, f, e, h, i, a, s⟩ := h
  exact ⟨x, f, e, h.keep i hs hk, i, a, Nat.le_trans s hs⟩
theorem GtIn.cells (h : GtIn b t w v g) : ∃ x, v = g.val x := by
  obtain ⟨x, f, e, _⟩ := h
  exact ⟨x, e⟩
theorem GtIn.wide {b' t' : Nat} (h : GtIn b t w v g) (hb : b' ≤ b) (ht : t ≤ t') (hs : t' ≤ w.heap.size) : GtIn b' t' w v g := by
  obtain ⟨x, f, e, h, i, a, _⟩ := h
  exact ⟨x, f, e, h, i.wide hb ht, a, hs⟩
/-- Each field's memory, turned alone: the others stay. -/
theorem GtW.turn1 (h : GtW w x f g) (i : f.In b t) (hw : t ≤ w.heap.size) (ap : f.Apart) (s : Span f.b1 f.t1 w w') {g' : List Rt} (r : RtsW f.b1 f.t1 w' (.slice x.a1 g'.length x.c1) g') : GtW w' x f { g with routes := g' } :=
  ⟨r, h.rules.keep s.size (fun k k1 k2 => s.block k (by have := i.h2; omega) (by have := ap.p12; omega)), h.tree.keep s.size (fun k k1 k2 => s.block k (by have := i.h3; omega) (by have := ap.p13; omega)), h.leaves.keep s.size (fun k k1 k2 => s.block k (by have := i.h4; omega) (by have := ap.p14; omega)), h.rows.keep s.size (fun k k1 k2 => s.block k (by have := i.h5; omega) (by have := ap.p15; omega)), h.steers.keep s.size (fun k k1 k2 => s.block k (by have := i.h6; omega) (by have := ap.p16; omega)), h.fair.keep s.size (fun k k1 k2 => s.block k (by have := i.h7; omega) (by have := ap.p17; omega))⟩
theorem GtW.turn2 (h : GtW w x f g) (i : f.In b t) (hw : t ≤ w.heap.size) (ap : f.Apart) (s : Span f.b2 f.t2 w w') {g' : List Ru} (r : RusW f.b2 f.t2 w' (.slice x.a2 g'.length x.c2) g') : GtW w' x f { g with rules := g' } :=
  ⟨h.routes.keep s.size (fun k k1 k2 => s.block k (by have := i.h1; omega) (by have := ap.p12; omega)), r, h.tree.keep s.size (fun k k1 k2 => s.block k (by have := i.h3; omega) (by have := ap.p23; omega)), h.leaves.keep s.size (fun k k1 k2 => s.block k (by have := i.h4; omega) (by have := ap.p24; omega)), h.rows.keep s.size (fun k k1 k2 => s.block k (by have := i.h5; omega) (by have := ap.p25; omega)), h.steers.keep s.size (fun k k1 k2 => s.block k (by have := i.h6; omega) (by have := ap.p26; omega)), h.fair.keep s.size (fun k k1 k2 => s.block k (by have := i.h7; omega) (by have := ap.p27; omega))⟩
theorem GtW.turn3 (h : GtW w x f g) (i : f.In b t) (hw : t ≤ w.heap.size) (ap : f.Apart) (s : Span f.b3 f.t3 w w') {g' : List Nd} (r : NdsW f.b3 f.t3 w' (.slice x.a3 g'.length x.c3) g') : GtW w' x f { g with tree := g' } :=
  ⟨h.routes.keep s.size (fun k k1 k2 => s.block k (by have := i.h1; omega) (by have := ap.p13; omega)), h.rules.keep s.size (fun k k1 k2 => s.block k (by have := i.h2; omega) (by have := ap.p23; omega)), r, h.leaves.keep s.size (fun k k1 k2 => s.block k (by have := i.h4; omega) (by have := ap.p34; omega)), h.rows.keep s.size (fun k k1 k2 => s.block k (by have := i.h5; omega) (by have := ap.p35; omega)), h.steers.keep s.size (fun k k1 k2 => s.block k (by have := i.h6; omega) (by have := ap.p36; omega)), h.fair.keep s.size (fun k k1 k2 => s.block k (by have := i.h7; omega) (by have := ap.p37; omega))⟩
theorem GtW.turn4 (h : GtW w x f g) (i : f.In b t) (hw : t ≤ w.heap.size) (ap : f.Apart) (s : Span f.b4 f.t4 w w') {g' : List Int} (r : IntsW f.b4 f.t4 w' (.slice x.a4 g'.length x.c4) g') : GtW w' x f { g with leaves := g' } :=
  ⟨h.routes.keep s.size (fun k k1 k2 => s.block k (by have := i.h1; omega) (by have := ap.p14; omega)), h.rules.keep s.size (fun k k1 k2 => s.block k (by have := i.h2; omega) (by have := ap.p24; omega)), h.tree.keep s.size (fun k k1 k2 => s.block k (by have := i.h3; omega) (by have := ap.p34; omega)), r, h.rows.keep s.size (fun k k1 k2 => s.block k (by have := i.h5; omega) (by have := ap.p45; omega)), h.steers.keep s.size (fun k k1 k2 => s.block k (by have := i.h6; omega) (by have := ap.p46; omega)), h.fair.keep s.size (fun k k1 k2 => s.block k (by have := i.h7; omega) (by have := ap.p47; omega))⟩
theorem GtW.turn5 (h : GtW w x f g) (i : f.In b t) (hw : t ≤ w.heap.size) (ap : f.Apart) (s : Span f.b5 f.t5 w w') {g' : Rw} (r : RwIn f.b5 f.t5 w' (g'.val x.a5 x.c5) g') : GtW w' x f { g with rows := g' } :=
  ⟨h.routes.keep s.size (fun k k1 k2 => s.block k (by have := i.h1; omega) (by have := ap.p15; omega)), h.rules.keep s.size (fun k k1 k2 => s.block k (by have := i.h2; omega) (by have := ap.p25; omega)), h.tree.keep s.size (fun k k1 k2 => s.block k (by have := i.h3; omega) (by have := ap.p35; omega)), h.leaves.keep s.size (fun k k1 k2 => s.block k (by have := i.h4; omega) (by have := ap.p45; omega)), r, h.steers.keep s.size (fun k k1 k2 => s.block k (by have := i.h6; omega) (by have := ap.p56; omega)), h.fair.keep s.size (fun k k1 k2 => s.block k (by have := i.h7; omega) (by have := ap.p57; omega))⟩
theorem GtW.turn6 (h : GtW w x f g) (i : f.In b t) (hw : t ≤ w.heap.size) (ap : f.Apart) (s : Span f.b6 f.t6 w w') {g' : List Sr} (r : SrsW f.b6 f.t6 w' (.slice x.a6 g'.length x.c6) g') : GtW w' x f { g with steers := g' } :=
  ⟨h.routes.keep s.size (fun k k1 k2 => s.block k (by have := i.h1; omega) (by have := ap.p16; omega)), h.rules.keep s.size (fun k k1 k2 => s.block k (by have := i.h2; omega) (by have := ap.p26; omega)), h.tree.keep s.size (fun k k1 k2 => s.block k (by have := i.h3; omega) (by have := ap.p36; omega)), h.leaves.keep s.size (fun k k1 k2 => s.block k (by have := i.h4; omega) (by have := ap.p46; omega)), h.rows.keep s.size (fun k k1 k2 => s.block k (by have := i.h5; omega) (by have := ap.p56; omega)), r, h.fair.keep s.size (fun k k1 k2 => s.block k (by have := i.h7; omega) (by have := ap.p67; omega))⟩
theorem GtW.turn7 (h : GtW w x f g) (i : f.In b t) (hw : t ≤ w.heap.size) (ap : f.Apart) (s : Span f.b7 f.t7 w w') {g' : Fs} (r : FsIn f.b7 f.t7 w' (g'.val x.a7 x.c7) g') : GtW w' x f { g with fair := g' } :=
  ⟨h.routes.keep s.size (fun k k1 k2 => s.block k (by have := i.h1; omega) (by have := ap.p17; omega)), h.rules.keep s.size (fun k k1 k2 => s.block k (by have := i.h2; omega) (by have := ap.p27; omega)), h.tree.keep s.size (fun k k1 k2 => s.block k (by have := i.h3; omega) (by have := ap.p37; omega)), h.leaves.keep s.size (fun k k1 k2 => s.block k (by have := i.h4; omega) (by have := ap.p47; omega)), h.rows.keep s.size (fun k k1 k2 => s.block k (by have := i.h5; omega) (by have := ap.p57; omega)), h.steers.keep s.size (fun k k1 k2 => s.block k (by have := i.h6; omega) (by have := ap.p67; omega)), r⟩
end
end Go.Proofs.Ytfkkmjejmflgjaa

/-
  Right rules as plain data, and the model's way to tell one. By the verifier.
-/
namespace Go.Proofs.Ytfkkmjejmflgjaa
open Go.RowKit

/-- A right rule. -/
def Ru.ok (r : Ru) : Bool := inB 1 999 r.id && (inB 0 99 r.prio && (netB r.snet r.sbits && (netB r.dnet r.dbits && (inB (-1) 255 r.proto && (inB 0 65535 r.high && (inB 0 r.high r.low && inB 0 15 r.cls))))))

set_option maxHeartbeats 3200000 in
set_option maxRecDepth 100000 in
theorem specRule (r : Ru) (w : World) :
    Calls Try.prog 72 #[r.val] w fun e w' => e = .returned (.bool r.ok) ∧ w' = w.alloc (.cells r.cells.toArray 105) := by
  have Hok : Hid (r.ok = (inB 1 999 r.id && (inB 0 99 r.prio && (netB r.snet r.sbits && (netB r.dnet r.dbits && (inB (-1) 255 r.proto && (inB 0 65535 r.high && (inB 0 r.high r.low && inB 0 15 r.cls)))))))) := rfl
  obtain ⟨i, p, sn, sb, dn, db, pr, lo, hi, cl⟩ := r
  generalize Ru.ok _ = ok at Hok ⊢
  simp only [Ru.val, Ru.cells] at Hok ⊢
  have A1 := fun w => specIn i 1 999 w
  have A2 := fun w => specIn p 0 99 w
  have A3 := fun w => specNet sn sb w
  have A4 := fun w => specNet dn db w
  have A5 := fun w => specIn pr (-1) 255 w
  have A6 := fun w => specIn hi 0 65535 w
  have A7 := fun w => specIn lo 0 hi w
  have A8 := fun w => specIn cl 0 15 w
  generalize inB 1 999 i = b1 at A1 Hok
  generalize inB 0 99 p = b2 at A2 Hok
  generalize netB sn sb = b3 at A3 Hok
  generalize netB dn db = b4 at A4 Hok
  generalize inB (-1) 255 pr = b5 at A5 Hok
  generalize inB 0 65535 hi = b6 at A6 Hok
  generalize inB 0 hi lo = b7 at A7 Hok
  generalize inB 0 15 cl = b8 at A8 Hok
  have A1' : Hid _ := A1
  have A2' : Hid _ := A2
  have A3' : Hid _ := A3
  have A4' : Hid _ := A4
  have A5' : Hid _ := A5
  have A6' : Hid _ := A6
  have A7' : Hid _ := A7
  have A8' : Hid _ := A8
  clear A1 A2 A3 A4 A5 A6 A7 A8
  go_enter Try.func72, Try.ntmps72
  go_wp2_with fail
  refine (A1'.out _).mono ?_
  rintro e w' ⟨rfl, rfl⟩
  cases b1
  · go_wp2
    go_ret
    exact ⟨ret_bool (by rw [Hok.out]; rfl), rfl⟩
  go_wp2_with fail
  refine (A2'.out _).mono ?_
  rintro e w' ⟨rfl, rfl⟩
  cases b2
  · go_wp2
    go_ret
    exact ⟨ret_bool (by rw [Hok.out]; rfl), rfl⟩
  go_wp2_with fail
  refine (A3'.out _).mono ?_
  rintro e w' ⟨rfl, rfl⟩
  cases b3
  · go_wp2
    go_ret
    exact ⟨ret_bool (by rw [Hok.out]; rfl), rfl⟩
  go_wp2_with fail
  refine (A4'.out _).mono ?_
  rintro e w' ⟨rfl, rfl⟩
  cases b4
  · go_wp2
    go_ret
    exact ⟨ret_bool (by rw [Hok.out]; rfl), rfl⟩
  go_wp2_with fail
  refine (A5'.out _).mono ?_
  rintro e w' ⟨rfl, rfl⟩
  cases b5
  · go_wp2
    go_ret
    exact ⟨ret_bool (by rw [Hok.out]; rfl), rfl⟩
  go_wp2_with fail
  refine (A6'.out _).mono ?_
  rintro e w' ⟨rfl, rfl⟩
  cases b6
  · go_wp2
    go_ret
    exact ⟨ret_bool (by rw [Hok.out]; rfl), rfl⟩
  go_wp2_with fail
  refine (A7'.out _).mono ?_
  rintro e w' ⟨rfl, rfl⟩
  cases b7
  · go_wp2
    go_ret
    exact ⟨ret_bool (by rw [Hok.out]; rfl), rfl⟩
  go_wp2_with fail
  refine (A8'.out _).mono ?_
  rintro e w' ⟨rfl, rfl⟩
  go_wp2
  go_ret
  exact ⟨ret_bool (by rw [Hok.out]; rfl), rfl⟩
end Go.Proofs.Ytfkkmjejmflgjaa

/-
  Right rules, in plain words. By the verifier.
-/
namespace Go.Proofs.Ytfkkmjejmflgjaa
open Go.RowKit

/-- Right, and behind the one ahead. -/
def goodR (l : List Ru) (i : Nat) : Bool := (ruAt l i).ok && (decide (i = 0) || decide ((ruAt l (i - 1)).id < (ruAt l i).id))
/-- The first k are. -/
def goodRs (l : List Ru) (k : Nat) : Bool := (List.range k).all (goodR l)
theorem goodRs_succ (l : List Ru) (k : Nat) : goodRs l (k + 1) = (goodRs l k && goodR l k) := by simp [goodRs, List.range_succ]
theorem goodRs_hit {l : List Ru} {k n : Nat} (h : k < n) (g : goodR l k = false) : goodRs l n = false := by
  unfold goodRs
  rw [List.all_eq_false]
  exact ⟨k, List.mem_range.2 h, by simp [g]⟩
/-- Right rules. -/
def rusOk (l : List Ru) : Bool := decide (l.length ≤ 40) && goodRs l l.length
end Go.Proofs.Ytfkkmjejmflgjaa

/-
  Trees as plain data: which are right, the path of a node, filled, paid, when there is so much. By the verifier.
-/
namespace Go.Proofs.Ytfkkmjejmflgjaa
open Go.RowKit

/-- Is it right at its place? -/
def Nd.fits (x : Nd) (k : Nat) (t0 : Int) : Bool := x.pz.ok && (decide (x.pz.tm = t0) && (if k = 0 then decide (x.up = -1) else (decide (0 ≤ x.up) && decide (x.up < (k : Int)))))
def treeB (l : List Nd) (k : Nat) : Bool := (ndAt l k).fits k (ndAt l 0).pz.tm
/-- A right tree. -/
def tok (l : List Nd) : Bool := decide (1 ≤ l.length) && (decide (l.length ≤ 12) && (List.range l.length).all (treeB l))
theorem tok_iff {l : List Nd} : tok l = true ↔ 1 ≤ l.length ∧ l.length ≤ 12 ∧ ∀ k, k < l.length → treeB l k = true := by
  unfold tok
  simp only [Bool.and_eq_true, decide_eq_true_eq, List.all_eq_true, List.mem_range]
/-- So much less. -/
def Nd.less (x : Nd) (size : Int) : Nd := ⟨x.up, ⟨x.pz.rate, x.pz.burst, x.pz.level - size, x.pz.tm⟩⟩
end Go.Proofs.Ytfkkmjejmflgjaa

/-
  Flows as plain data: when they are right, who begins when, who is chosen, who is served. By the verifier.
-/
namespace Go.Proofs.Ytfkkmjejmflgjaa
open Go.RowKit

def szAt (l : List Int) (j : Nat) : Int := l[j]?.getD 0
def Fw.ok (x : Fw) : Bool := inB 1 10 x.weight && (inB 0 1125899906842624 x.finish && (inB 0 40 (x.sizes.length : Int) && x.sizes.all (inB 1 2000)))
def Fs.ok (f : Fs) : Bool := inB 0 1125899906842624 f.now && (inB 1 8 (f.flows.length : Int) && f.flows.all Fw.ok)
theorem Fw.ok_iff {x : Fw} : x.ok = true ↔ (1 ≤ x.weight ∧ x.weight ≤ 10) ∧ (0 ≤ x.finish ∧ x.finish ≤ 1125899906842624) ∧ x.sizes.length ≤ 40 ∧ ∀ y ∈ x.sizes, 1 ≤ y ∧ y ≤ 2000 := by
  unfold Fw.ok
  simp only [Bool.and_eq_true, inB_true, List.all_eq_true]
  constructor
  · rintro ⟨h1, h2, h3, h4⟩
    exact ⟨h1, h2, by omega, h4⟩
  · rintro ⟨h1, h2, h3, h4⟩
    exact ⟨h1, h2, by omega, h4⟩
theorem Fs.ok_iff {f : Fs} : f.ok = true ↔ (0 ≤ f.now ∧ f.now ≤ 1125899906842624) ∧ (1 ≤ f.flows.length ∧ f.flows.length ≤ 8) ∧ ∀ x ∈ f.flows, x.ok = true := by
  unfold Fs.ok
  simp only [Bool.and_eq_true, inB_true, List.all_eq_true]
  constructor
  · rintro ⟨h1, h2, h3⟩
    exact ⟨h1, by omega, h3⟩
  · rintro ⟨h1, h2, h3⟩
    exact ⟨h1, by omega, h3⟩
def Fs.waits (f : Fs) (i : Nat) : Bool := decide (0 < (fwAt f.flows i).sizes.length)
/-- One more of it, at a time. -/
def Fw.more (x : Fw) (now size : Int) : Fw := ⟨x.weight, if x.sizes.length = 0 then max x.finish now else x.finish, x.sizes ++ [size]⟩
end Go.Proofs.Ytfkkmjejmflgjaa

/-
  Which gates are right, in plain words. By the verifier.
-/
namespace Go.Proofs.Ytfkkmjejmflgjaa
open Go.RowKit

/-- All but its leaves. -/
def Gt.head (g : Gt) : Bool := g.ln.ok && (rtsOk g.routes && (rusOk g.rules && (tok g.tree && (decide (1 ≤ g.leaves.length) && (decide (g.leaves.length ≤ 8) && (g.rows.ok && (decide (g.rows.lists.length = g.leaves.length) && (decide (g.steers.length = g.leaves.length) && (g.fair.ok && (decide (g.fair.flows.length = g.leaves.length) && (inB 1 1000000 g.next && inB 0 1048575 g.draw)))))))))))
/-- An Item of a leaf. -/
def Gt.itemB (g : Gt) (i k : Nat) : Bool := decide ((itAt (izAt g.rows.lists i) k).id < g.next) && decide (g.ln.takes (itAt (izAt g.rows.lists i) k).size = (fwAt g.fair.flows i).sizes[k]?.getD 0)
/-- A leaf. -/
def Gt.leafB (g : Gt) (i : Nat) : Bool := decide (0 ≤ g.leaves[i]?.getD 0) && (decide (g.leaves[i]?.getD 0 < (g.tree.length : Int)) && ((decide (i = 0) || decide (g.leaves[i - 1]?.getD 0 < g.leaves[i]?.getD 0)) && ((srAt g.steers i).ok && (decide ((fwAt g.fair.flows i).sizes.length = (izAt g.rows.lists i).length) && (List.range (izAt g.rows.lists i).length).all (g.itemB i)))))
def Gt.ok (g : Gt) : Bool := g.head && (List.range g.leaves.length).all g.leafB
theorem Gt.ok_iff {g : Gt} : g.ok = true ↔ g.head = true ∧ ∀ i, i < g.leaves.length → g.leafB i = true := by
  unfold Gt.ok
  simp only [Bool.and_eq_true, List.all_eq_true, List.mem_range]
end Go.Proofs.Ytfkkmjejmflgjaa

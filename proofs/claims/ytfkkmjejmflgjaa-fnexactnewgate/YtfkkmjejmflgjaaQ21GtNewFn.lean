import Derived.Test.YtfkkmjejmflgjaaQ7GtFn
import Derived.Test.YtfkkmjejmflgjaaQ20FwGrow
import Derived.Test.YtfkkmjejmflgjaaQ3RtNet
import Derived.Test.YtfkkmjejmflgjaaQ0SrPlain
import Derived.Test.YtfkkmjejmflgjaaQ2SsV
import Derived.Laws.MakeOwn
/-
  A gate whose lists are the call's own, each in a block of its own. By the verifier.
-/
namespace Go.Proofs.Ytfkkmjejmflgjaa
open Go.RowKit

theorem IzG.mono {b b' : Nat} {v : Value} {vs : List Value} {ls : List (List It)} {w : World} (h : IzG b v vs ls w) (hb : b' ≤ b) : IzG b' v vs ls w :=
  ⟨⟨h.outer.1, h.outer.2.imp id fun ⟨g, cap, cur, h1, h2, h3⟩ => ⟨g, cap, cur, h1, Nat.le_trans hb h2, h3⟩⟩, h.len, fun i hi => (h.row i hi).mono hb, h.apart⟩
theorem FwG.mono {b b' : Nat} {v : Value} {rs : List Fwr} {l : List Fw} {w : World} (h : FwG b v rs l w) (hb : b' ≤ b) : FwG b' v rs l w :=
  ⟨⟨h.outer.1, h.outer.2.imp id fun ⟨g, cap, cur, h1, h2, h3⟩ => ⟨g, cap, cur, h1, Nat.le_trans hb h2, h3⟩⟩, h.len, h.num, fun i hi => (h.row i hi).mono hb, h.apart⟩
theorem IzG.shape {b : Nat} {v : Value} {vs : List Value} {ls : List (List It)} {w : World} (h : IzG b v vs ls w) : ∃ a c, v = .slice a ls.length c := by
  rcases h.outer.2 with ⟨e, hn⟩ | ⟨g, cap, cur, e, _⟩
  · exact ⟨none, 0, by rw [e, hn]⟩
  · exact ⟨_, _, e⟩
theorem FwG.shape {b : Nat} {v : Value} {rs : List Fwr} {l : List Fw} {w : World} (h : FwG b v rs l w) : ∃ a c, v = .slice a l.length c := by
  rcases h.outer.2 with ⟨e, hn⟩ | ⟨g, cap, cur, e, _⟩
  · exact ⟨none, 0, by rw [e, hn]⟩
  · exact ⟨_, _, e⟩

/-- The lists of a gate, each of the call's own. -/
structure GtO (b : Nat) (w : World) (x : Ga) (vs : List Value) (rs : List Fwr) (g : Gt) : Prop where
  routes : RtRow b w (.slice x.a1 g.routes.length x.c1) g.routes
  rules : RuRow b w (.slice x.a2 g.rules.length x.c2) g.rules
  tree : NdRow b w (.slice x.a3 g.tree.length x.c3) g.tree
  leaves : IRow b w (.slice x.a4 g.leaves.length x.c4) g.leaves
  rows : IzG b (.slice x.a5 g.rows.lists.length x.c5) vs g.rows.lists w
  steers : SrRow b w (.slice x.a6 g.steers.length x.c6) g.steers
  fair : FwG b (.slice x.a7 g.fair.flows.length x.c7) rs g.fair.flows w
  apart : ∀ i k, i < g.fair.flows.length → (fwrAt rs i).hd.ownBlock = some k → (Value.slice x.a4 g.leaves.length x.c4).ownBlock ≠ some k
section
variable {b : Nat} {w w' : World} {x : Ga} {vs : List Value} {rs : List Fwr} {g : Gt}
theorem GtO.other (h : GtO b w x vs rs g) (q : ∀ k, b ≤ k → k < w.heap.size → w'.heap[k]? = w.heap[k]?) : GtO b w' x vs rs g :=
  ⟨h.routes.carry fun k hk hl => q k (h.routes.lt k hk).1 hl, h.rules.carry fun k hk hl => q k (h.rules.lt k hk).1 hl, h.tree.carry fun k hk hl => q k (h.tree.lt k hk).1 hl, h.leaves.carry q, h.rows.other q, h.steers.carry fun k hk hl => q k (h.steers.lt k hk).1 hl, h.fair.other q, h.apart⟩
theorem GtO.below (h : GtO b w x vs rs g) (q : Below w.heap.size w w') : GtO b w' x vs rs g := h.other fun k _ hl => q.block k hl
theorem GtO.mono {b' : Nat} (h : GtO b w x vs rs g) (hb : b' ≤ b) : GtO b' w x vs rs g :=
  ⟨h.routes.mono hb, h.rules.mono hb, h.tree.mono hb, h.leaves.mono hb, h.rows.mono hb, h.steers.mono hb, h.fair.mono hb, h.apart⟩
theorem GtO.at (h : GtO b w x vs rs g) : GtV w x g :=
  ⟨⟨_, _, rfl, h.routes.at, h.routes.cap, h.routes.nilCap⟩, ⟨_, _, rfl, h.rules.at, h.rules.cap, h.rules.nilCap⟩, ⟨_, _, rfl, h.tree.at, h.tree.cap, h.tree.nilCap⟩, (IntsW.of_row h.leaves).at, ⟨_, _, rfl, (IzIn.at ⟨vs, h.rows.done⟩)⟩, ⟨_, _, rfl, h.steers.at, h.steers.cap, h.steers.nilCap⟩, ⟨_, _, rfl, (FwsIn.at ⟨rs, h.fair.done⟩)⟩⟩
end
/-- A gate that lies between b and t as it was laid. -/
def GtLie (b t : Nat) (W : World) (v : Value) (g : Gt) : Prop :=
  ∃ w0 x vs rs, v = g.val x ∧ GtO b w0 x vs rs g ∧ w0.heap.size ≤ t ∧ t ≤ W.heap.size ∧ ∀ k, b ≤ k → k < t → k < w0.heap.size → W.heap[k]? = w0.heap[k]?
section
variable {b t : Nat} {w w' : World} {v : Value} {g : Gt}
theorem GtLie.keep (h : GtLie b t w v g) (hs : w.heap.size ≤ w'.heap.size) (hk : ∀ k, b ≤ k → k < t → w'.heap[k]? = w.heap[k]?) : GtLie b t w' v g := by
  obtain ⟨w0, x, vs, rs, e, o, h1, h2, h3⟩ := h
  exact ⟨w0, x, vs, rs, e, o, h1, Nat.le_trans h2 hs, fun k k1 k2 k3 => (hk k k1 k2).trans (h3 k k1 k2 k3)⟩
theorem GtLie.own (h : GtLie b t w v g) : ∃ x vs rs, v = g.val x ∧ GtO b w x vs rs g := by
  obtain ⟨w0, x, vs, rs, e, o, h1, h2, h3⟩ := h
  exact ⟨x, vs, rs, e, o.other fun k k1 k2 => h3 k k1 (Nat.lt_of_lt_of_le k2 h1) k2⟩
theorem GtLie.at (h : GtLie b t w v g) : GtAt w v g := by
  obtain ⟨x, vs, rs, e, o⟩ := h.own
  exact ⟨x, e, o.at⟩
theorem GtLie.below (h : GtLie b t w v g) (q : Below w.heap.size w w') : GtLie b t w' v g := by
  have h2 := h
  obtain ⟨w0, x, vs, rs, e, o, h1, ht, h3⟩ := h2
  exact h.keep q.size fun k _ k2 => q.block k (Nat.lt_of_lt_of_le k2 ht)
theorem GtLie.cells (h : GtLie b t w v g) : ∃ x, v = g.val x := by
  obtain ⟨w0, x, vs, rs, e, _⟩ := h
  exact ⟨x, e⟩
theorem GtLie.lt (h : GtLie b t w v g) : t ≤ w.heap.size := by
  obtain ⟨w0, x, vs, rs, e, o, h1, h2, h3⟩ := h
  exact h2
theorem GtO.lie {x : Ga} {vs : List Value} {rs : List Fwr} (h : GtO b w x vs rs g) : GtLie b w.heap.size w (g.val x) g := ⟨w, x, vs, rs, rfl, h, Nat.le_refl _, Nat.le_refl _, fun _ _ _ _ => rfl⟩
end
/-- What was laid between b and t, as it was. -/
abbrev Thing.was (Q : World → Prop) (b t : Nat) : Thing where
  P := fun W => ∃ w0, Q w0 ∧ w0.heap.size ≤ t ∧ t ≤ W.heap.size ∧ ∀ k, b ≤ k → k < t → k < w0.heap.size → W.heap[k]? = w0.heap[k]?
  lo := b
  hi := t
  keep := fun ⟨w0, q, h1, h2, h3⟩ hs hk => ⟨w0, q, h1, Nat.le_trans h2 hs, fun k k1 k2 k3 => (hk k k1 k2).trans (h3 k k1 k2 k3)⟩
  lt := fun ⟨_, _, _, h2, _⟩ => h2
end Go.Proofs.Ytfkkmjejmflgjaa

/-
  Gates in plain words: made, later, ruled. By the verifier.
-/
namespace Go.Proofs.Ytfkkmjejmflgjaa
open Go.RowKit

/-- No gate. -/
def Gt.zero : Gt := ⟨⟨0, 0, 0⟩, [], [], [], [], ⟨0, []⟩, [], ⟨0, []⟩, 0, 0⟩
/-- A new one. -/
def newG (l : Ln) (t : List Nd) (ls : List Int) : Gt := ⟨l, [], [], t, ls, ⟨100, List.replicate ls.length []⟩, List.replicate ls.length ⟨20, 0, 0⟩, ⟨0, List.replicate ls.length ⟨1, 0, []⟩⟩, 1, 1⟩
def newB (l : Ln) (t : List Nd) (ls : List Int) : Bool := (newG l t ls).ok
def newGate (l : Ln) (t : List Nd) (ls : List Int) : Gt := if newB l t ls = true then newG l t ls else Gt.zero
theorem Gt.head_iff {g : Gt} : g.head = true ↔ g.ln.ok = true ∧ rtsOk g.routes = true ∧ rusOk g.rules = true ∧ tok g.tree = true ∧ (1 ≤ g.leaves.length ∧ g.leaves.length ≤ 8) ∧ g.rows.ok = true ∧ g.rows.lists.length = g.leaves.length ∧ g.steers.length = g.leaves.length ∧ g.fair.ok = true ∧ g.fair.flows.length = g.leaves.length ∧ (1 ≤ g.next ∧ g.next ≤ 1000000) ∧ 0 ≤ g.draw ∧ g.draw ≤ 1048575 := by
  unfold Gt.head
  simp only [Bool.and_eq_true, decide_eq_true_eq, inB_true]
  constructor
  · rintro ⟨a, b, c, d, e, f, g, h, i, j, k, l, m⟩
    exact ⟨a, b, c, d, ⟨e, f⟩, g, h, i, j, k, l, m.1, m.2⟩
  · rintro ⟨a, b, c, d, ⟨e, f⟩, g, h, i, j, k, l, m⟩
    exact ⟨a, b, c, d, e, f, g, h, i, j, k, l, m⟩
theorem newB_small {l : Ln} {t : List Nd} {ls : List Int} (h : newB l t ls = true) : 1 ≤ ls.length ∧ ls.length ≤ 8 := (Gt.head_iff.1 (Gt.ok_iff.1 h).1).2.2.2.2.1
/-- What a leaf of a right gate is. -/
theorem Gt.leaf_iff {g : Gt} {i : Nat} : g.leafB i = true ↔ (0 ≤ g.leaves[i]?.getD 0 ∧ g.leaves[i]?.getD 0 < (g.tree.length : Int)) ∧ (i = 0 ∨ g.leaves[i - 1]?.getD 0 < g.leaves[i]?.getD 0) ∧ (srAt g.steers i).ok = true ∧ (fwAt g.fair.flows i).sizes.length = (izAt g.rows.lists i).length ∧ ∀ k, k < (izAt g.rows.lists i).length → (itAt (izAt g.rows.lists i) k).id < g.next ∧ g.ln.takes (itAt (izAt g.rows.lists i) k).size = (fwAt g.fair.flows i).sizes[k]?.getD 0 := by
  unfold Gt.leafB Gt.itemB
  simp only [Bool.and_eq_true, Bool.or_eq_true, decide_eq_true_eq, List.all_eq_true, List.mem_range]
  constructor
  · rintro ⟨a, b, c, d, e, f⟩
    exact ⟨⟨a, b⟩, c, d, e, f⟩
  · rintro ⟨⟨a, b⟩, c, d, e, f⟩
    exact ⟨a, b, c, d, e, f⟩
theorem Gt.zero_big : Gt.zero.big = 0 := rfl
end Go.Proofs.Ytfkkmjejmflgjaa

/-
  No gate, as memory; the cells of a gate. By the verifier.
-/
namespace Go.Proofs.Ytfkkmjejmflgjaa
open Go.RowKit

theorem Gt.cells_size (g : Gt) (x : Ga) : (g.cells x).size = 14 := rfl
theorem Gt.cells_one (g : Gt) (x : Ga) : (g.cells x).all (·.oneCell') = true := by simp [Gt.cells, Value.oneCell']
theorem GtO.zero (b : Nat) (w : World) : GtO b w ⟨none, 0, none, 0, none, 0, none, 0, none, 0, none, 0, none, 0⟩ [] [] Gt.zero :=
  ⟨World.ownsRow_nil _ _ _ _, World.ownsRow_nil _ _ _ _, World.ownsRow_nil _ _ _ _, World.ownsRow_nil _ _ _ _, IzG.nil _ _, World.ownsRow_nil _ _ _ _, FwG.nil _ _, fun i k hi => by simp [Gt.zero] at hi⟩
theorem GtLie.zero (b : Nat) (w : World) : GtLie b w.heap.size w (.agg #[.int .i64 0, .int .i64 0, .int .i64 0, .slice none 0 0, .slice none 0 0, .slice none 0 0, .slice none 0 0, .int .i64 0, .slice none 0 0, .slice none 0 0, .int .i64 0, .slice none 0 0, .int .i64 0, .int .i64 0]) Gt.zero := (GtO.zero b w).lie
end Go.Proofs.Ytfkkmjejmflgjaa

/-
  A gate in a variable, its lists of the call's own: one part put, the others stay. By the verifier.
-/
namespace Go.Proofs.Ytfkkmjejmflgjaa
open Go.RowKit

/-- A gate in a variable. -/
structure GtB (b B : Nat) (w : World) (x : Ga) (vs : List Value) (rs : List Fwr) (g : Gt) : Prop where
  box : Boxed w B (g.cells x) 39
  own : GtO b w x vs rs g
section
variable {b B : Nat} {w w' : World} {x : Ga} {vs : List Value} {rs : List Fwr} {g : Gt}
theorem GtB.below (h : GtB b B w x vs rs g) (q : Below w.heap.size w w') : GtB b B w' x vs rs g := ⟨h.box.below h.box.under q, h.own.below q⟩
/-- A list lies where no gate's variable lies. -/
theorem gate_off {e : TypeId} {c n : Nat} {v : Value} {xs : List Value} (h : Boxed w B (g.cells x) 39) (r : w.ownsRow b e c v n xs) (hne : 39 ≠ e) : v.ownBlock ≠ some B := by
  intro hk
  rcases r.2 with ⟨rfl, _⟩ | ⟨k, cap, cur, rfl, _, hg, _⟩
  · cases hk
  · cases hk
    unfold Boxed at h
    rw [h] at hg
    simp only [Option.some.injEq, Obj.cells.injEq] at hg
    exact hne hg.2.1
theorem irow_carry {v : Value} {l : List Int} (h : IRow b w v l) (q : ∀ k, v.ownBlock = some k → k < w.heap.size → w'.heap[k]? = w.heap[k]?) : IRow b w' v l := by
  refine ⟨h.1, h.2.imp id ?_⟩
  rintro ⟨k, cap, cur, h1, h2, h3, h4⟩
  exact ⟨k, cap, cur, h1, h2, by rw [q k (by rw [h1]; rfl) (Array.getElem?_eq_some_iff.1 h3).1]; exact h3, h4⟩
theorem IzG.carry {v : Value} {ls : List (List It)} (h : IzG b v vs ls w) (q1 : ∀ k, v.ownBlock = some k → k < w.heap.size → w'.heap[k]? = w.heap[k]?) (q2 : ∀ i k, i < ls.length → (izV vs i).ownBlock = some k → k < w.heap.size → w'.heap[k]? = w.heap[k]?) : IzG b v vs ls w' :=
  ⟨rows_carry h.outer q1, h.len, fun i hi => (h.row i hi).carry fun k hk hl => q2 i k hi hk hl, h.apart⟩
theorem FwG.carry {v : Value} {l : List Fw} (h : FwG b v rs l w) (q1 : ∀ k, v.ownBlock = some k → k < w.heap.size → w'.heap[k]? = w.heap[k]?) (q2 : ∀ i k, i < l.length → (fwrAt rs i).hd.ownBlock = some k → k < w.heap.size → w'.heap[k]? = w.heap[k]?) : FwG b v rs l w' :=
  ⟨rows_carry h.outer q1, h.len, h.num, fun i hi => irow_carry (h.row i hi) fun k hk hl => q2 i k hi hk hl, h.apart⟩
end
end Go.Proofs.Ytfkkmjejmflgjaa

/-
  A new gate on its way: its steers and flows grow one by one. By the verifier.
-/
namespace Go.Proofs.Ytfkkmjejmflgjaa
open Go.RowKit

/-- With so many leaves made. -/
def newI (l : Ln) (t : List Nd) (ls : List Int) (i : Nat) : Gt := ⟨l, [], [], t, ls, ⟨100, List.replicate ls.length []⟩, List.replicate i ⟨20, 0, 0⟩, ⟨0, List.replicate i ⟨1, 0, []⟩⟩, 1, 1⟩
/-- One more steer than flows. -/
def newJ (l : Ln) (t : List Nd) (ls : List Int) (i : Nat) : Gt := ⟨l, [], [], t, ls, ⟨100, List.replicate ls.length []⟩, List.replicate (i + 1) ⟨20, 0, 0⟩, ⟨0, List.replicate i ⟨1, 0, []⟩⟩, 1, 1⟩
theorem izMade (n : Nat) : (madeCells #[Value.slice none 0 0] (n * 1)).toList = List.replicate n (.slice none 0 0) := by
  apply List.ext_getElem?
  intro i
  by_cases hi : i < n
  · simp [madeCells, hi, Nat.mod_one]
  · rw [List.getElem?_eq_none (by simp [madeCells]; omega), List.getElem?_eq_none (by simp; omega)]
theorem izMake (n : Nat) (hn : n ≤ 1000) (wx : World) : (Instr.makeSlice 31 (.int .i64 (n : Int)) (.int .i64 (n : Int))).run Try.prog wx = .ok (.slice (some ⟨wx.heap.size, 0, none⟩) n n) (wx.alloc (.cells (madeCells #[.slice none 0 0] (n * 1)) 88)) := by
  obtain ⟨i0, hi, hz0, hz1, hz2⟩ := info_parts izInfo
  have := run_make (P := Try.prog) wx 31 88 i0 (.slice none 0 0) Try.underlying31 hi hz0 .i64 .i64 n n (by omega) (by omega) (by rw [hz2]; omega) (by omega)
  rw [this, hz1]; simp [Value.cells]
theorem izMadeG (w : World) (base n : Nat) (hn : n ≤ 1000) (hb : base ≤ w.heap.size) : IzG base (.slice (some ⟨w.heap.size, 0, none⟩) n n) (List.replicate n (.slice none 0 0)) (List.replicate n []) (w.alloc (.cells (madeCells #[.slice none 0 0] (n * 1)) 88)) := by
  have e : ∀ i, izV (List.replicate n (.slice none 0 0)) i = .slice none 0 0 := fun i => by
    unfold izV
    by_cases h : i < n
    · rw [List.getElem?_replicate_of_lt h]; rfl
    · rw [List.getElem?_eq_none (by simp; omega)]; rfl
  have e2 : ∀ i, izAt (List.replicate n ([] : List It)) i = [] := fun i => by
    unfold izAt
    by_cases h : i < n
    · rw [List.getElem?_replicate_of_lt h]; rfl
    · rw [List.getElem?_eq_none (by simp; omega)]; rfl
  refine ⟨?_, by simp, fun i hi => ?_, fun i j k hi hj hne h1 => ?_⟩
  · have := World.ownsRow_lit (size := 1) (e := 88) w (madeCells #[.slice none 0 0] (n * 1)) n hb (by unfold maxLen; omega) (by rw [size_madeCells])
    rw [izMade] at this
    rw [List.length_replicate]
    exact this
  · rw [e, e2]
    exact World.ownsRow_nil _ base _ 3
  · rw [e] at h1
    cases h1
/-- A list lies where no gate's variable lies. -/
theorem gate_offC {B : Nat} {cs : Array Value} {e : TypeId} {b c n : Nat} {v : Value} {xs : List Value} {w : World} (h : Boxed w B cs 39) (r : w.ownsRow b e c v n xs) (hne : 39 ≠ e) : v.ownBlock ≠ some B := by
  intro hk
  rcases r.2 with ⟨rfl, _⟩ | ⟨k, cap, cur, rfl, _, hg, _⟩
  · cases hk
  · cases hk
    unfold Boxed at h
    rw [h] at hg
    simp only [Option.some.injEq, Obj.cells.injEq] at hg
    exact hne hg.2.1
section
variable {b B : Nat} {w w' wx : World} {x : Ga} {vs : List Value} {rs : List Fwr} {g : Gt}
/-- A variable for a gate put: the lists stay. -/
theorem GtO.boxedC {cs : Array Value} (h : GtO b w x vs rs g) (hb : Boxed w B cs 39) (q : ∀ k, k ≠ B → k < w.heap.size → w'.heap[k]? = w.heap[k]?) : GtO b w' x vs rs g := by
  have un : ∀ {e : TypeId} {cz n : Nat} {v : Value} {xs : List Value}, w.ownsRow b e cz v n xs → 39 ≠ e → ∀ k, v.ownBlock = some k → k < w.heap.size → w'.heap[k]? = w.heap[k]? := fun r hne k hk hl => q k (fun e => gate_offC hb r hne (by rw [← e]; exact hk)) hl
  exact ⟨h.routes.carry (un h.routes (by decide)), h.rules.carry (un h.rules (by decide)), h.tree.carry (un h.tree (by decide)), irow_carry h.leaves (un h.leaves (by decide)), h.rows.carry (un h.rows.outer (by decide)) (fun i k hi => un (h.rows.row i hi) (by decide) k), h.steers.carry (un h.steers (by decide)), h.fair.carry (un h.fair.outer (by decide)) (fun i k hi => un (h.fair.row i hi) (by decide) k), h.apart⟩
/-- The steers put: as the old ones grew, or new ones. -/
theorem GtB.putSteers (h : GtB b B w x vs rs g) {a : Option Addr} {c : Nat} {sl : List Sr} (hu : SrRow b wx (.slice a sl.length c) sl)
    (g1 : ∀ k, (Value.slice x.a6 g.steers.length x.c6).ownBlock ≠ some k → k < w.heap.size → wx.heap[k]? = w.heap[k]?) :
    GtB b B (wx.setCell ⟨B, 9, none⟩ (.slice a sl.length c)) { x with a6 := a, c6 := c } vs rs { g with steers := sl } := by
  have hB : (Value.slice x.a6 g.steers.length x.c6).ownBlock ≠ some B := gate_off h.box h.own.steers (by decide)
  have hb : Boxed wx B (g.cells x) 39 := (g1 B hB h.box.under).trans h.box
  have q2 : ∀ k, (Value.slice x.a6 g.steers.length x.c6).ownBlock ≠ some k → k ≠ B → k < w.heap.size → (wx.setCell ⟨B, 9, none⟩ (.slice a sl.length c)).heap[k]? = w.heap[k]? := fun k h1 h2 h3 => (Below.heap_setCell _ _ _ _ h2).trans (g1 k h1 h3)
  have un : ∀ {e : TypeId} {cz n : Nat} {v : Value} {xs : List Value}, w.ownsRow b e cz v n xs → 53 ≠ e → 39 ≠ e → ∀ k, v.ownBlock = some k → k < w.heap.size → (wx.setCell ⟨B, 9, none⟩ (.slice a sl.length c)).heap[k]? = w.heap[k]? := fun r2 n1 n2 k hk hl =>
    q2 k (fun e => rows_unlike h.own.steers r2 n1 k e hk) (fun e => gate_off h.box r2 n2 (by rw [← e]; exact hk)) hl
  refine ⟨hb.put 9 _, h.own.routes.carry (un h.own.routes (by decide) (by decide)), h.own.rules.carry (un h.own.rules (by decide) (by decide)), h.own.tree.carry (un h.own.tree (by decide) (by decide)), irow_carry h.own.leaves (un h.own.leaves (by decide) (by decide)), h.own.rows.carry (un h.own.rows.outer (by decide) (by decide)) (fun i k hi => un (h.own.rows.row i hi) (by decide) (by decide) k), ?_, h.own.fair.carry (un h.own.fair.outer (by decide) (by decide)) (fun i k hi => un (h.own.fair.row i hi) (by decide) (by decide) k), h.own.apart⟩
  exact hu.carry fun k hk _ => Below.heap_setCell _ _ _ _ fun e => by
    have e : k = B := e
    exact gate_offC hb hu (by decide) (by rw [← e]; exact hk)
/-- The flows put: as the old ones grew, or new ones, all without sizes. -/
theorem GtB.putFlows (h : GtB b B w x vs rs g) {a : Option Addr} {c : Nat} {fl : List Fw} {rs' : List Fwr} (hu : FwG b (.slice a fl.length c) rs' fl wx) (hnil : ∀ i, i < fl.length → (fwrAt rs' i).hd.ownBlock = none)
    (g1 : ∀ k, (Value.slice x.a7 g.fair.flows.length x.c7).ownBlock ≠ some k → k < w.heap.size → wx.heap[k]? = w.heap[k]?) :
    GtB b B (wx.setCell ⟨B, 11, none⟩ (.slice a fl.length c)) { x with a7 := a, c7 := c } vs rs' { g with fair := ⟨g.fair.now, fl⟩ } := by
  have hB : (Value.slice x.a7 g.fair.flows.length x.c7).ownBlock ≠ some B := gate_off h.box h.own.fair.outer (by decide)
  have hb : Boxed wx B (g.cells x) 39 := (g1 B hB h.box.under).trans h.box
  have q2 : ∀ k, (Value.slice x.a7 g.fair.flows.length x.c7).ownBlock ≠ some k → k ≠ B → k < w.heap.size → (wx.setCell ⟨B, 11, none⟩ (.slice a fl.length c)).heap[k]? = w.heap[k]? := fun k h1 h2 h3 => (Below.heap_setCell _ _ _ _ h2).trans (g1 k h1 h3)
  have un : ∀ {e : TypeId} {cz n : Nat} {v : Value} {xs : List Value}, w.ownsRow b e cz v n xs → 55 ≠ e → 39 ≠ e → ∀ k, v.ownBlock = some k → k < w.heap.size → (wx.setCell ⟨B, 11, none⟩ (.slice a fl.length c)).heap[k]? = w.heap[k]? := fun r2 n1 n2 k hk hl =>
    q2 k (fun e => rows_unlike h.own.fair.outer r2 n1 k e hk) (fun e => gate_off h.box r2 n2 (by rw [← e]; exact hk)) hl
  refine ⟨hb.put 11 _, h.own.routes.carry (un h.own.routes (by decide) (by decide)), h.own.rules.carry (un h.own.rules (by decide) (by decide)), h.own.tree.carry (un h.own.tree (by decide) (by decide)), irow_carry h.own.leaves (un h.own.leaves (by decide) (by decide)), h.own.rows.carry (un h.own.rows.outer (by decide) (by decide)) (fun i k hi => un (h.own.rows.row i hi) (by decide) (by decide) k), h.own.steers.carry (un h.own.steers (by decide) (by decide)), ?_, fun i k hi hk => by rw [hnil i hi] at hk; cases hk⟩
  have hd := hu
  refine hd.carry (fun k hk _ => Below.heap_setCell _ _ _ _ fun e => ?_) (fun i k hi hk _ => by rw [hnil i hi] at hk; cases hk)
  have e : k = B := e
  exact gate_offC hb hu.outer (by decide) (by rw [← e]; exact hk)
end
/-- A gate on its way: so many leaves made (flows: k; steers: as many, or one more). -/
structure NwP (w : World) (A B : Nat) (g : Gt) (k : Nat) (x : Ga) (vs : List Value) (rs : List Fwr) (wr : World) : Prop where
  g : GtB (A + 2) B wr x vs rs g
  nil : ∀ i, i < k → (fwrAt rs i).hd.ownBlock = none
  bel : Below w.heap.size w wr
  res : Boxed wr (A + 1) #[.int .i64 0, .int .i64 0, .int .i64 0, .slice none 0 0, .slice none 0 0, .slice none 0 0, .slice none 0 0, .int .i64 0, .slice none 0 0, .slice none 0 0, .int .i64 0, .slice none 0 0, .int .i64 0, .int .i64 0] 39
  lo : w.heap.size = A
  off : A + 2 ≤ B
section
variable {w wr w1 wx : World} {A B k : Nat} {l : Ln} {t : List Nd} {ls : List Int} {x : Ga} {vs : List Value} {rs : List Fwr}
/-- One steer more. -/
theorem NwP.steer (h : NwP w A B (newI l t ls k) k x vs rs wr) (q0 : Below wr.heap.size wr w1) {v : Value} (hu : SrRow (A + 2) wx v (List.replicate k ⟨20, 0, 0⟩ ++ [⟨20, 0, 0⟩]))
    (q1 : Below (A + 2) w1 wx) (g1 : ∀ k', (Value.slice x.a6 k x.c6).ownBlock ≠ some k' → k' < w1.heap.size → wx.heap[k']? = w1.heap[k']?) :
    ∃ a c, v = .slice a (k + 1) c ∧ NwP w A B (newJ l t ls k) k { x with a6 := a, c6 := c } vs rs (wx.setCell ⟨B, 9, none⟩ (.slice a (k + 1) c)) := by
  obtain ⟨a, c, e⟩ := hu.shape
  have el : (List.replicate k (⟨20, 0, 0⟩ : Sr) ++ [⟨20, 0, 0⟩]) = List.replicate (k + 1) ⟨20, 0, 0⟩ := List.replicate_succ'.symm
  rw [el] at hu e
  have e' : v = .slice a (k + 1) c := by rw [e, List.length_replicate]
  subst e'
  refine ⟨a, c, rfl, ?_, h.nil, ?_, ?_, h.lo, h.off⟩
  · have := (h.g.below q0).putSteers (a := a) (c := c) (sl := List.replicate (k + 1) ⟨20, 0, 0⟩) (wx := wx) (by rw [List.length_replicate]; exact hu) (fun k' h1 h2 => g1 k' (by have h1 : (Value.slice x.a6 (List.replicate k (⟨20, 0, 0⟩ : Sr)).length x.c6).ownBlock ≠ some k' := h1; rw [List.length_replicate] at h1; exact h1) h2)
    rw [List.length_replicate] at this
    exact this
  · have hl := h.lo
    have := h.off
    exact ((h.bel.trans (q0.mono h.bel.size)).trans (q1.mono (by omega))).setCell (by show w.heap.size ≤ B; omega) _
  · have hr := h.res
    have := h.off
    exact ((hr.below hr.under q0).below (by omega) q1).far (by omega) _ _
/-- One flow more. -/
theorem NwP.flow (h : NwP w A B (newJ l t ls k) k x vs rs wr) (q0 : Below wr.heap.size wr w1) {v : Value} (ho : wx.ownsRow (A + 2) 55 3 v (k + 1) (fwcells (rs ++ [⟨1, 0, .slice none 0 0⟩])))
    (q1 : Below (A + 2) w1 wx) (g1 : ∀ k', (Value.slice x.a7 k x.c7).ownBlock ≠ some k' → k' < w1.heap.size → wx.heap[k']? = w1.heap[k']?) :
    ∃ a c rs', v = .slice a (k + 1) c ∧ NwP w A B (newI l t ls (k + 1)) (k + 1) { x with a7 := a, c7 := c } vs rs' (wx.setCell ⟨B, 11, none⟩ (.slice a (k + 1) c)) := by
  obtain ⟨a, c, e⟩ := fwrows_shape ho
  subst e
  have el : (List.replicate k (⟨1, 0, []⟩ : Fw) ++ [⟨1, 0, []⟩]) = List.replicate (k + 1) ⟨1, 0, []⟩ := List.replicate_succ'.symm
  have hs1 : A + 2 ≤ w1.heap.size := by have := h.off; have := h.g.box.under; have := q0.size; omega
  have hG := (h.g.below q0)
  have hf : FwG (A + 2) (.slice x.a7 k x.c7) rs (List.replicate k ⟨1, 0, []⟩) w1 := by
    have := hG.own.fair
    have e2 : (newJ l t ls k).fair.flows.length = k := List.length_replicate
    rw [e2] at this
    exact this
  have hl : rs.length = k := by rw [hf.len, List.length_replicate]
  have F := hf.add (r := ⟨1, 0, []⟩) (u := .slice none 0 0) (v' := .slice a (k + 1) c) (wx := wx) hs1 (Below.refl _ _) (World.ownsRow_nil _ _ _ _) (by rw [List.length_replicate]; exact ho) g1
  rw [el] at F
  refine ⟨a, c, rs ++ [⟨1, 0, .slice none 0 0⟩], rfl, ?_, fun i hi => ?_, ?_, ?_, h.lo, h.off⟩
  · have := hG.putFlows (a := a) (c := c) (fl := List.replicate (k + 1) ⟨1, 0, []⟩) (rs' := rs ++ [⟨1, 0, .slice none 0 0⟩]) (wx := wx) (by rw [List.length_replicate]; exact F) (fun i hi => ?_) (fun k' h1 h2 => g1 k' (by have h1 : (Value.slice x.a7 (List.replicate k (⟨1, 0, []⟩ : Fw)).length x.c7).ownBlock ≠ some k' := h1; rw [List.length_replicate] at h1; exact h1) h2)
    · rw [List.length_replicate] at this
      exact this
    · rw [List.length_replicate] at hi
      by_cases e : i = k
      · subst e
        rw [← hl, fwrAt_new]
        rfl
      · rw [fwrAt_old (by omega)]
        exact h.nil i (by omega)
  · by_cases e : i = k
    · subst e
      rw [← hl, fwrAt_new]
      rfl
    · rw [fwrAt_old (by omega)]
      exact h.nil i (by omega)
  · have hl := h.lo
    have := h.off
    exact ((h.bel.trans (q0.mono h.bel.size)).trans (q1.mono (by omega))).setCell (by show w.heap.size ≤ B; omega) _
  · have hr := h.res
    have := h.off
    exact ((hr.below hr.under q0).below (by omega) q1).far (by omega) _ _
end
end Go.Proofs.Ytfkkmjejmflgjaa

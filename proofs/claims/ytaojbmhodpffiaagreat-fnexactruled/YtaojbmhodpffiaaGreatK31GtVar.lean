/-
  A gate in a variable, its lists of the call's own: one part put, the others stay. By the verifier.
-/
import Derived.Test.YtaojbmhodpffiaaGreatK19GtZero
namespace Go.Proofs.YtaojbmhodpffiaaGreat
open Go.RowKit

/-- A gate in a variable. -/
structure GtB (b B : Nat) (w : World) (x : Ga) (vs : List Value) (rs : List Fwr) (g : Gt) : Prop where
  box : Boxed w B (g.cells x) 51
  own : GtO b w x vs rs g
section
variable {b B : Nat} {w w' : World} {x : Ga} {vs : List Value} {rs : List Fwr} {g : Gt}
theorem GtB.below (h : GtB b B w x vs rs g) (q : Below w.heap.size w w') : GtB b B w' x vs rs g := ⟨h.box.below h.box.under q, h.own.below q⟩
/-- A list lies where no gate's variable lies. -/
theorem gate_off {e : TypeId} {c n : Nat} {v : Value} {xs : List Value} (h : Boxed w B (g.cells x) 51) (r : w.ownsRow b e c v n xs) (hne : 51 ≠ e) : v.ownBlock ≠ some B := by
  intro hk
  rcases r.2 with ⟨rfl, _⟩ | ⟨k, cap, cur, rfl, _, hg, _⟩
  · cases hk
  · cases hk
    unfold Boxed at h
    rw [h] at hg
    simp only [Option.some.injEq, Obj.cells.injEq] at hg
    exact hne hg.2.1
/-- A part of the variable put: the lists stay. -/
theorem GtO.boxed (h : GtO b w x vs rs g) (hb : Boxed w B (g.cells x) 51) (q : ∀ k, k ≠ B → k < w.heap.size → w'.heap[k]? = w.heap[k]?) : GtO b w' x vs rs g := by
  refine ⟨h.routes.carry fun k hk hl => q k (fun e => gate_off hb h.routes (by decide) (by rw [← e]; exact hk)) hl, h.rules.carry fun k hk hl => q k (fun e => gate_off hb h.rules (by decide) (by rw [← e]; exact hk)) hl, h.tree.carry fun k hk hl => q k (fun e => gate_off hb h.tree (by decide) (by rw [← e]; exact hk)) hl, ?_, ?_, h.steers.carry fun k hk hl => q k (fun e => gate_off hb h.steers (by decide) (by rw [← e]; exact hk)) hl, ?_, h.apart⟩
  · refine ⟨h.leaves.1, h.leaves.2.imp id ?_⟩
    rintro ⟨k, cap, cur, h1, h2, h3, h4⟩
    exact ⟨k, cap, cur, h1, h2, by rw [q k (fun e => gate_off hb h.leaves (by decide) (by rw [h1, e]; rfl)) (Array.getElem?_eq_some_iff.1 h3).1]; exact h3, h4⟩
  · refine ⟨rows_carry h.rows.outer fun k hk hl => q k (fun e => gate_off hb h.rows.outer (by decide) (by rw [← e]; exact hk)) hl, h.rows.len, fun i hi => (h.rows.row i hi).carry fun k hk hl => q k (fun e => gate_off hb (h.rows.row i hi) (by decide) (by rw [← e]; exact hk)) hl, h.rows.apart⟩
  · refine ⟨rows_carry h.fair.outer fun k hk hl => q k (fun e => gate_off hb h.fair.outer (by decide) (by rw [← e]; exact hk)) hl, h.fair.len, h.fair.num, fun i hi => ?_, h.fair.apart⟩
    have r := h.fair.row i hi
    refine ⟨r.1, r.2.imp id ?_⟩
    rintro ⟨k, cap, cur, h1, h2, h3, h4⟩
    exact ⟨k, cap, cur, h1, h2, by rw [q k (fun e => gate_off hb r (by decide) (by rw [h1, e]; rfl)) (Array.getElem?_eq_some_iff.1 h3).1]; exact h3, h4⟩
theorem irow_carry {v : Value} {l : List Int} (h : IRow b w v l) (q : ∀ k, v.ownBlock = some k → k < w.heap.size → w'.heap[k]? = w.heap[k]?) : IRow b w' v l := by
  refine ⟨h.1, h.2.imp id ?_⟩
  rintro ⟨k, cap, cur, h1, h2, h3, h4⟩
  exact ⟨k, cap, cur, h1, h2, by rw [q k (by rw [h1]; rfl) (Array.getElem?_eq_some_iff.1 h3).1]; exact h3, h4⟩
theorem IzG.carry {v : Value} {ls : List (List It)} (h : IzG b v vs ls w) (q1 : ∀ k, v.ownBlock = some k → k < w.heap.size → w'.heap[k]? = w.heap[k]?) (q2 : ∀ i k, i < ls.length → (izV vs i).ownBlock = some k → k < w.heap.size → w'.heap[k]? = w.heap[k]?) : IzG b v vs ls w' :=
  ⟨rows_carry h.outer q1, h.len, fun i hi => (h.row i hi).carry fun k hk hl => q2 i k hi hk hl, h.apart⟩
theorem FwG.carry {v : Value} {l : List Fw} (h : FwG b v rs l w) (q1 : ∀ k, v.ownBlock = some k → k < w.heap.size → w'.heap[k]? = w.heap[k]?) (q2 : ∀ i k, i < l.length → (fwrAt rs i).hd.ownBlock = some k → k < w.heap.size → w'.heap[k]? = w.heap[k]?) : FwG b v rs l w' :=
  ⟨rows_carry h.outer q1, h.len, h.num, fun i hi => irow_carry (h.row i hi) fun k hk hl => q2 i k hi hk hl, h.apart⟩
end
end Go.Proofs.YtaojbmhodpffiaaGreat

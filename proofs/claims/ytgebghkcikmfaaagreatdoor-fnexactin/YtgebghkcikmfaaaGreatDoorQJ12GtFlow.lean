import Derived.Test.YtgebghkcikmfaaaGreatDoorQJ3SrPlain
import Derived.Test.YtgebghkcikmfaaaGreatDoorQJ11GtFacts
/-
  A gate in a variable, its lists of the call's own: one part put, the others stay. By the verifier.
-/
namespace Go.Proofs.YtgebghkcikmfaaaGreatDoor
open Go.RowKit

/-- A gate in a variable. -/
structure GtB (b B : Nat) (w : World) (x : Ga) (vs : List Value) (rs : List Fwr) (g : Gt) : Prop where
  box : Boxed w B (g.cells x) 50
  own : GtO b w x vs rs g
section
variable {b B : Nat} {w w' : World} {x : Ga} {vs : List Value} {rs : List Fwr} {g : Gt}
theorem GtB.below (h : GtB b B w x vs rs g) (q : Below w.heap.size w w') : GtB b B w' x vs rs g := ⟨h.box.below h.box.under q, h.own.below q⟩
/-- A list lies where no gate's variable lies. -/
theorem gate_off {e : TypeId} {c n : Nat} {v : Value} {xs : List Value} (h : Boxed w B (g.cells x) 50) (r : w.ownsRow b e c v n xs) (hne : 50 ≠ e) : v.ownBlock ≠ some B := by
  intro hk
  rcases r.2 with ⟨rfl, _⟩ | ⟨k, cap, cur, rfl, _, hg, _⟩
  · cases hk
  · cases hk
    unfold Boxed at h
    rw [h] at hg
    simp only [Option.some.injEq, Obj.cells.injEq] at hg
    exact hne hg.2.1
/-- A part of the variable put: the lists stay. -/
theorem GtO.boxed (h : GtO b w x vs rs g) (hb : Boxed w B (g.cells x) 50) (q : ∀ k, k ≠ B → k < w.heap.size → w'.heap[k]? = w.heap[k]?) : GtO b w' x vs rs g := by
  refine ⟨h.routes.carry fun k hk hl => q k (fun e => gate_off hb h.routes (by decide) (by rw [← e]; exact hk)) hl, h.rules.carry fun k hk hl => q k (fun e => gate_off hb h.rules (by decide) (by rw [← e]; exact hk)) hl, h.tree.carry fun k hk hl => q k (fun e => gate_off hb h.tree (by decide) (by rw [← e]; exact hk)) hl, ?_, ?_, h.steers.carry fun k hk hl => q k (fun e => gate_off hb h.steers (by decide) (by rw [← e]; exact hk)) hl, ?_, h.apart⟩
  · refine ⟨h.leaves.1, h.leaves.2.imp id ?_⟩
    rintro ⟨k, cap, cur, h1, h2, h3, h4⟩
    exact ⟨k, cap, cur, h1, h2, by rw [q k (fun e => gate_off hb h.leaves (by decide) (by rw [h1, e]; rfl)) (Array.getElem?_eq_some_iff.1 h3).1]; exact h3, h4⟩
  · refine ⟨rows_carry h.rows.outer fun k hk hl => q k (fun e => gate_off hb h.rows.outer (by decide) (by rw [← e]; exact hk)) hl, h.rows.len, fun i hi => (h.rows.row i hi).carry fun k hk hl => q k (fun e => gate_off hb (h.rows.row i hi) (by decide) (by rw [← e]; exact hk)) hl, h.rows.apart⟩
  · refine ⟨rows_carry h.fair.outer fun k hk hl => q k (fun e => gate_off hb h.fair.outer (by decide) (by rw [← e]; exact hk)) hl, h.fair.len, h.fair.num, fun i hi => ?_, h.fair.apart⟩
    have r := h.fair.row i hi
    refine ⟨r.1, r.2.imp id ?_⟩
    rintro ⟨k, cap, cur, h1, h2, h3, h4⟩
    exact ⟨k, cap, cur, h1, h2, by rw [q k (fun e => gate_off hb r (by decide) (by rw [h1, e]; rfl)) (Array.getElem?_eq_some_iff.1 h3).1]; exact h3, h4⟩
theorem irow_carry {v : Value} {l : List Int} (h : IRow b w v l) (q : ∀ k, v.ownBlock = some k → k < w.heap.size → w'.heap[k]? = w.heap[k]?) : IRow b w' v l := by
  refine ⟨h.1, h.2.imp id ?_⟩
  rintro ⟨k, cap, cur, h1, h2, h3, h4⟩
  exact ⟨k, cap, cur, h1, h2, by rw [q k (by rw [h1]; rfl) (Array.getElem?_eq_some_iff.1 h3).1]; exact h3, h4⟩
theorem IzG.carry {v : Value} {ls : List (List It)} (h : IzG b v vs ls w) (q1 : ∀ k, v.ownBlock = some k → k < w.heap.size → w'.heap[k]? = w.heap[k]?) (q2 : ∀ i k, i < ls.length → (izV vs i).ownBlock = some k → k < w.heap.size → w'.heap[k]? = w.heap[k]?) : IzG b v vs ls w' :=
  ⟨rows_carry h.outer q1, h.len, fun i hi => (h.row i hi).carry fun k hk hl => q2 i k hi hk hl, h.apart⟩
theorem FwG.carry {v : Value} {l : List Fw} (h : FwG b v rs l w) (q1 : ∀ k, v.ownBlock = some k → k < w.heap.size → w'.heap[k]? = w.heap[k]?) (q2 : ∀ i k, i < l.length → (fwrAt rs i).hd.ownBlock = some k → k < w.heap.size → w'.heap[k]? = w.heap[k]?) : FwG b v rs l w' :=
  ⟨rows_carry h.outer q1, h.len, h.num, fun i hi => irow_carry (h.row i hi) fun k hk hl => q2 i k hi hk hl, h.apart⟩
end
end Go.Proofs.YtgebghkcikmfaaaGreatDoor

/-
  A gate in a variable, one of its rows put: what lies elsewhere stays. By the verifier.
-/
namespace Go.Proofs.YtgebghkcikmfaaaGreatDoor
open Go.RowKit
section
variable {b B : Nat} {w w' : World} {x : Ga} {vs : List Value} {rs : List Fwr} {g : Gt}
/-- All but one row as it lay: what else is read is as it was. -/
theorem GtB.besides (h : GtB b B w x vs rs g) {j : Nat} (hj : j < g.rows.lists.length) (q : ∀ k, (izV vs j).ownBlock ≠ some k → k < w.heap.size → w'.heap[k]? = w.heap[k]?) :
    Boxed w' B (g.cells x) 50 ∧ w'.ownsRow b 111 1 (.slice x.a5 g.rows.lists.length x.c5) g.rows.lists.length vs ∧ NdRow b w' (.slice x.a3 g.tree.length x.c3) g.tree := by
  have hr := h.own.rows.row j hj
  have un : ∀ {e : TypeId} {c n : Nat} {v : Value} {xs : List Value}, w.ownsRow b e c v n xs → 52 ≠ e → ∀ k, v.ownBlock = some k → k < w.heap.size → w'.heap[k]? = w.heap[k]? := fun r2 hne k hk hl => q k (fun e => rows_unlike hr r2 hne k e hk) hl
  refine ⟨?_, rows_carry h.own.rows.outer (un h.own.rows.outer (by decide)), h.own.tree.carry (un h.own.tree (by decide))⟩
  exact (q B (fun e => gate_off h.box hr (by decide) e) h.box.under).trans h.box
theorem Gt.cells_rows {l : List (List It)} (hl : l.length = g.rows.lists.length) : ({ g with rows := ⟨g.rows.most, l⟩ } : Gt).cells x = g.cells x := by
  unfold Gt.cells
  simp only [hl]
/-- One row put. -/
theorem GtB.putRow (h : GtB b B w x vs rs g) {j : Nat} (hj : j < g.rows.lists.length) {x0 : World} {u : Value} {l : List It} (q : ∀ k, (izV vs j).ownBlock ≠ some k → k < w.heap.size → x0.heap[k]? = w.heap[k]?) (hu : ItRow b x0 u l) (hw : ∀ k, u.ownBlock = some k → (izV vs j).ownBlock = some k ∨ w.heap.size ≤ k) {rk : Nat} (ea : x.a5 = some ⟨rk, 0, none⟩) :
    GtB b B (x0.setCell ⟨rk, j, none⟩ u) x (vs.set j u) rs { g with rows := ⟨g.rows.most, g.rows.lists.set j l⟩ } := by
  have hr := h.own.rows.row j hj
  have hro : (Value.slice x.a5 g.rows.lists.length x.c5).ownBlock = some rk := by rw [ea]; rfl
  have q2 : ∀ k, (izV vs j).ownBlock ≠ some k → k ≠ rk → k < w.heap.size → (x0.setCell ⟨rk, j, none⟩ u).heap[k]? = w.heap[k]? := fun k h1 h2 h3 => (Below.heap_setCell _ _ _ _ h2).trans (q k h1 h3)
  have un : ∀ {e : TypeId} {c n : Nat} {v : Value} {xs : List Value}, w.ownsRow b e c v n xs → 52 ≠ e → 111 ≠ e → ∀ k, v.ownBlock = some k → k < w.heap.size → (x0.setCell ⟨rk, j, none⟩ u).heap[k]? = w.heap[k]? := fun r2 n1 n2 k hk hl =>
    q2 k (fun e => rows_unlike hr r2 n1 k e hk) (fun e => rows_unlike h.own.rows.outer r2 n2 rk hro (by rw [← e]; exact hk)) hl
  refine ⟨?_, h.own.routes.carry (un h.own.routes (by decide) (by decide)), h.own.rules.carry (un h.own.rules (by decide) (by decide)), h.own.tree.carry (un h.own.tree (by decide) (by decide)), irow_carry h.own.leaves (un h.own.leaves (by decide) (by decide)), ?_, h.own.steers.carry (un h.own.steers (by decide) (by decide)), h.own.fair.carry (un h.own.fair.outer (by decide) (by decide)) (fun i k hi => un (h.own.fair.row i hi) (by decide) (by decide) k), h.own.apart⟩
  · rw [Gt.cells_rows (by rw [List.length_set])]
    exact (q2 B (fun e => gate_off h.box hr (by decide) e) (fun e => gate_off h.box h.own.rows.outer (by decide) (by rw [e]; exact hro)) h.box.under).trans h.box
  · have := h.own.rows.set hj hu q hw (g := rk) (cap := x.c5) (by rw [ea])
    show IzG b (.slice x.a5 (g.rows.lists.set j l).length x.c5) (vs.set j u) (g.rows.lists.set j l) _
    rw [List.length_set]
    exact this
end
end Go.Proofs.YtgebghkcikmfaaaGreatDoor

/-
  A gate in a variable, a flow's number or its list put: what lies elsewhere stays. By the verifier.
-/
namespace Go.Proofs.YtgebghkcikmfaaaGreatDoor
open Go.RowKit
section
variable {b B : Nat} {w wx : World} {x : Ga} {vs : List Value} {rs : List Fwr} {g : Gt}
theorem fwr_hd {rs : List Fwr} {j i : Nat} {r : Fwr} (hj : j < rs.length) : (fwrAt (rs.set j r) i).hd = if i = j then r.hd else (fwrAt rs i).hd := by
  unfold fwrAt
  by_cases e : i = j
  · subst e
    rw [List.getElem?_set_self hj, if_pos rfl]
    rfl
  · rw [List.getElem?_set_ne (fun h => e h.symm), if_neg e]
theorem Gt.cells_flows {l : List Fw} (hl : l.length = g.fair.flows.length) : ({ g with fair := ⟨g.fair.now, l⟩ } : Gt).cells x = g.cells x := by
  unfold Gt.cells
  simp only [hl]
/-- A flow's finish put. -/
theorem GtB.putFinish (h : GtB b B w x vs rs g) {j : Nat} (hj : j < g.fair.flows.length) {fk : Nat} (ea : x.a7 = some ⟨fk, 0, none⟩) (z : Int) :
    GtB b B (w.setCell ⟨fk, j * 3 + 1, none⟩ (.int .i64 z)) x vs (rs.set j ⟨(fwrAt rs j).weight, z, (fwrAt rs j).hd⟩) { g with fair := ⟨g.fair.now, g.fair.flows.set j ⟨(fwAt g.fair.flows j).weight, z, (fwAt g.fair.flows j).sizes⟩⟩ } := by
  have hro : (Value.slice x.a7 g.fair.flows.length x.c7).ownBlock = some fk := by rw [ea]; rfl
  have un : ∀ {e : TypeId} {c n : Nat} {v : Value} {xs : List Value}, w.ownsRow b e c v n xs → 116 ≠ e → ∀ k, v.ownBlock = some k → k < w.heap.size → (w.setCell ⟨fk, j * 3 + 1, none⟩ (.int .i64 z)).heap[k]? = w.heap[k]? := fun r2 n1 k hk _ =>
    Below.heap_setCell _ _ _ _ (fun (e : k = fk) => rows_unlike h.own.fair.outer r2 n1 fk hro (by rw [← e]; exact hk))
  have F1 : FwG b (.slice (some ⟨fk, 0, none⟩) g.fair.flows.length x.c7) rs g.fair.flows w := by rw [← ea]; exact h.own.fair
  refine ⟨?_, h.own.routes.carry (un h.own.routes (by decide)), h.own.rules.carry (un h.own.rules (by decide)), h.own.tree.carry (un h.own.tree (by decide)), irow_carry h.own.leaves (un h.own.leaves (by decide)), h.own.rows.carry (un h.own.rows.outer (by decide)) (fun i k hi => un (h.own.rows.row i hi) (by decide) k), h.own.steers.carry (un h.own.steers (by decide)), ?_, fun i k hi hk => ?_⟩
  · rw [Gt.cells_flows (by rw [List.length_set])]
    exact (Below.heap_setCell _ _ _ _ (fun (e : B = fk) => gate_off h.box h.own.fair.outer (by decide) (by rw [e]; exact hro))).trans h.box
  · show FwG b (.slice x.a7 (g.fair.flows.set j _).length x.c7) _ (g.fair.flows.set j _) _
    rw [List.length_set, ea]
    exact F1.finish hj z
  · have hi' : i < g.fair.flows.length := by have h2 : i < (g.fair.flows.set j ⟨(fwAt g.fair.flows j).weight, z, (fwAt g.fair.flows j).sizes⟩).length := hi; rwa [List.length_set] at h2
    rw [fwr_hd (by rw [h.own.fair.len]; exact hj)] at hk
    refine h.own.apart i k hi' ?_
    split at hk
    · rename_i e; rw [e]; exact hk
    · exact hk
/-- A flow's list put: as the old one grew, or a new one. -/
theorem GtB.putSizes (h : GtB b B w x vs rs g) {j : Nat} (hj : j < g.fair.flows.length) {fk : Nat} (ea : x.a7 = some ⟨fk, 0, none⟩) {u : Value} {sz : List Int} (hu : IRow b wx u sz)
    (g1 : ∀ k, k < w.heap.size → (fwrAt rs j).hd.ownBlock ≠ some k → wx.heap[k]? = w.heap[k]?) (hn : ∀ k, u.ownBlock = some k → (fwrAt rs j).hd.ownBlock = some k ∨ w.heap.size ≤ k) :
    GtB b B (wx.setCell ⟨fk, j * 3 + 2, none⟩ u) x vs (rs.set j ⟨(fwrAt rs j).weight, (fwrAt rs j).finish, u⟩) { g with fair := ⟨g.fair.now, g.fair.flows.set j ⟨(fwAt g.fair.flows j).weight, (fwAt g.fair.flows j).finish, sz⟩⟩ } := by
  have hro : (Value.slice x.a7 g.fair.flows.length x.c7).ownBlock = some fk := by rw [ea]; rfl
  have hr := h.own.fair.row j hj
  have q2 : ∀ k, (fwrAt rs j).hd.ownBlock ≠ some k → k ≠ fk → k < w.heap.size → (wx.setCell ⟨fk, j * 3 + 2, none⟩ u).heap[k]? = w.heap[k]? := fun k h1 h2 h3 => (Below.heap_setCell _ _ _ _ h2).trans (g1 k h3 h1)
  have un : ∀ {e : TypeId} {c n : Nat} {v : Value} {xs : List Value}, w.ownsRow b e c v n xs → 2 ≠ e → 116 ≠ e → ∀ k, v.ownBlock = some k → k < w.heap.size → (wx.setCell ⟨fk, j * 3 + 2, none⟩ u).heap[k]? = w.heap[k]? := fun r2 n1 n2 k hk hl =>
    q2 k (fun e => rows_unlike hr r2 n1 k e hk) (fun e => rows_unlike h.own.fair.outer r2 n2 fk hro (by rw [← e]; exact hk)) hl
  have F1 : FwG b (.slice (some ⟨fk, 0, none⟩) g.fair.flows.length x.c7) rs g.fair.flows w := by rw [← ea]; exact h.own.fair
  have hlv : ∀ k, (Value.slice x.a4 g.leaves.length x.c4).ownBlock = some k → k < w.heap.size → (wx.setCell ⟨fk, j * 3 + 2, none⟩ u).heap[k]? = w.heap[k]? := fun k hk hl => q2 k (fun e => h.own.apart j k hj e hk) (fun e => rows_unlike h.own.fair.outer h.own.leaves (by decide) fk hro (by rw [← e]; exact hk)) hl
  refine ⟨?_, h.own.routes.carry (un h.own.routes (by decide) (by decide)), h.own.rules.carry (un h.own.rules (by decide) (by decide)), h.own.tree.carry (un h.own.tree (by decide) (by decide)), irow_carry h.own.leaves hlv, h.own.rows.carry (un h.own.rows.outer (by decide) (by decide)) (fun i k hi => un (h.own.rows.row i hi) (by decide) (by decide) k), h.own.steers.carry (un h.own.steers (by decide) (by decide)), ?_, fun i k hi hk => ?_⟩
  · rw [Gt.cells_flows (by rw [List.length_set])]
    exact (q2 B (fun e => gate_off h.box hr (by decide) e) (fun e => gate_off h.box h.own.fair.outer (by decide) (by rw [e]; exact hro)) h.box.under).trans h.box
  · show FwG b (.slice x.a7 (g.fair.flows.set j _).length x.c7) _ (g.fair.flows.set j _) _
    rw [List.length_set, ea]
    exact F1.sizes hj hu g1 hn
  · have hi' : i < g.fair.flows.length := by have h2 : i < (g.fair.flows.set j ⟨(fwAt g.fair.flows j).weight, (fwAt g.fair.flows j).finish, sz⟩).length := hi; rwa [List.length_set] at h2
    rw [fwr_hd (by rw [h.own.fair.len]; exact hj)] at hk
    split at hk
    · intro hk2
      rcases hn k hk with h3 | h3
      · exact h.own.apart j k hj h3 hk2
      · have := (World.ownsRow.lt h.own.leaves k hk2).2
        omega
    · exact h.own.apart i k hi' hk
end
end Go.Proofs.YtgebghkcikmfaaaGreatDoor

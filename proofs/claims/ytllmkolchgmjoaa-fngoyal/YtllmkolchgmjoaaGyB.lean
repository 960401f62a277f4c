/-
  What lies while FnGoyal lays its flows: the variable, the flows, the list of the most; the flow that is laid beside them. By the verifier.
-/
import Derived.Test.YtllmkolchgmjoaaFsDr
import Derived.Test.YtllmkolchgmjoaaM6FsFacts
namespace Go.Proofs.Ytllmkolchgmjoaa
open Go.RowKit

/-- What is known of the flows, and of the most of each. -/
structure GyP (l : List Fw) (ms : List Int) : Prop where
  len : ms.length = l.length
  fl : ∀ i, i < l.length → (fwAt l i).finish = 0 ∧ (1 ≤ (fwAt l i).weight ∧ (fwAt l i).weight ≤ 10) ∧ (fwAt l i).sizes.length = 40 ∧ ∀ y ∈ (fwAt l i).sizes, 1 ≤ y ∧ y ≤ 200
  mo : ∀ i, i < l.length → szAt ms i = 200 * (2520 / (fwAt l i).weight)
theorem GyP.nil : GyP [] [] := ⟨rfl, fun i hi => by simp at hi, fun i hi => by simp at hi⟩
theorem GyP.add {l : List Fw} {ms : List Int} {wt : Int} {sz : List Int} (h : GyP l ms) (hw : 1 ≤ wt ∧ wt ≤ 10) (hs : sz.length = 40) (hy : ∀ y ∈ sz, 1 ≤ y ∧ y ≤ 200) : GyP (l ++ [⟨wt, 0, sz⟩]) (ms ++ [200 * (2520 / wt)]) := by
  have hl := h.len
  refine ⟨by simp [hl], fun i hi => ?_, fun i hi => ?_⟩
  · rw [List.length_append, List.length_singleton] at hi
    by_cases e : i = l.length
    · subst e; rw [fwAt_new]; exact ⟨rfl, hw, hs, hy⟩
    · rw [fwAt_old (by omega)]; exact h.fl i (by omega)
  · rw [List.length_append, List.length_singleton] at hi
    by_cases e : i = l.length
    · subst e
      rw [fwAt_new]
      unfold szAt
      rw [← hl]
      simp
    · rw [fwAt_old (by omega), ← h.mo i (by omega)]
      unfold szAt
      rw [List.getElem?_append_left (by omega)]
/-- So they begin: as flows that always wait. -/
theorem GyP.begin {l : List Fw} {ms : List Int} (h : GyP l ms) (h1 : 1 ≤ l.length) (h8 : l.length ≤ 8) : Gy ⟨0, l⟩ (l.map Fw.weight) 40 0 := by
  have hw : ∀ i, i < l.length → szAt (l.map Fw.weight) i = (fwAt l i).weight := fun i hi => by
    unfold szAt
    rw [List.getElem?_map, List.getElem?_eq_getElem hi, fwAt_lt hi]
    rfl
  refine ⟨?_, by simp, fun i hi => ?_, fun i hi => ?_, fun i hi y hy => ?_, fun i hi => ?_, fun i hi => ?_, fun x y hx hy => ?_⟩
  · rw [Fs.ok_iff]
    refine ⟨by show (0 : Int) ≤ 0 ∧ (0 : Int) ≤ 1125899906842624; omega, ⟨h1, h8⟩, fun x hx => ?_⟩
    obtain ⟨i, hi, rfl⟩ := List.mem_iff_getElem.1 hx
    have := h.fl i hi
    rw [fwAt_lt hi] at this
    rw [Fw.ok_iff]
    exact ⟨this.2.1, by omega, by omega, fun y hy => by have := this.2.2.2 y hy; omega⟩
  · rw [List.length_map] at hi; exact (hw i hi).symm
  · rw [List.length_map] at hi; have := (h.fl i hi).2.2.1; show (40 : Int) ≤ ((fwAt l i).sizes.length : Int); omega
  · rw [List.length_map] at hi; exact ((h.fl i hi).2.2.2 y hy).2
  · rw [List.length_map] at hi; show (0 : Int) ≤ (fwAt l i).finish; rw [(h.fl i hi).1]; exact Int.le_refl _
  · rw [List.length_map] at hi; show (fwAt l i).finish ≤ 0; rw [(h.fl i hi).1]; exact Int.le_refl _
  · rw [List.length_map] at hx hy
    show (fwAt l x).finish ≤ (fwAt l y).finish + _
    rw [(h.fl x hx).1, (h.fl y hy).1, hw x hx]
    have := (div2520 (h.fl x hx).2.1 0).2.2
    omega

/-- The variable at gq, the flows, the list of the most. -/
structure GyB (w : World) (gq : Nat) (v : Value) (rs : List Fwr) (l : List Fw) (mv : Value) (ms : List Int) (x : World) : Prop where
  bel : Below w.heap.size w x
  q : Boxed x gq #[.int .i64 0, v] 26
  g : FwG (gq + 1) v rs l x
  m : IRow (gq + 1) x mv ms
  lo : w.heap.size ≤ gq
  ap : ∀ i k, i < l.length → (fwrAt rs i).hd.ownBlock = some k → mv.ownBlock ≠ some k
/-- A flow that is laid at H. -/
structure GyI (w : World) (gq : Nat) (v : Value) (rs : List Fwr) (l : List Fw) (mv : Value) (ms : List Int) (H : Nat) (wt : Int) (u : Value) (sz : List Int) (x : World) : Prop where
  d : GyB w gq v rs l mv ms x
  hb : Boxed x H #[.int .i64 wt, .int .i64 0, u] 36
  r : IRow (H + 1) x u sz
  hH : gq + 1 ≤ H
  lo : ∀ i k, i < l.length → (fwrAt rs i).hd.ownBlock = some k → k < H
  lo' : ∀ k, v.ownBlock = some k → k < H
  lom : ∀ k, mv.ownBlock = some k → k < H
section
variable {w : World} {gq H : Nat} {v u mv : Value} {rs : List Fwr} {l : List Fw} {ms sz : List Int} {wt : Int} {x x' : World}
theorem GyB.below (h : GyB w gq v rs l mv ms x) (b : Below x.heap.size x x') : GyB w gq v rs l mv ms x' :=
  ⟨h.bel.trans (b.mono h.bel.size), h.q.below h.q.under b, h.g.below b, h.m.carry fun k _ hl => b.block k hl, h.lo, h.ap⟩
theorem GyI.below (h : GyI w gq v rs l mv ms H wt u sz x) (b : Below x.heap.size x x') : GyI w gq v rs l mv ms H wt u sz x' :=
  ⟨h.d.below b, h.hb.below h.hb.under b, h.r.carry fun k _ hl => b.block k hl, h.hH, h.lo, h.lo', h.lom⟩
/-- What lies from H on is turned. -/
theorem GyB.high (h : GyB w gq v rs l mv ms x) (hH : gq + 1 ≤ H) (lo : ∀ i k, i < l.length → (fwrAt rs i).hd.ownBlock = some k → k < H) (lo' : ∀ k, v.ownBlock = some k → k < H) (lom : ∀ k, mv.ownBlock = some k → k < H) (b : Below H x x') : GyB w gq v rs l mv ms x' := by
  have h1 := h.lo
  exact ⟨h.bel.trans (b.mono (by omega)), h.q.below (by omega) b, ⟨fwrows_carry h.g.outer fun k hk _ => b.block k (lo' k hk), h.g.len, h.g.num, fun i hi => fwrows_carry (h.g.row i hi) fun k hk _ => b.block k (lo i k hi hk), h.g.apart⟩, fwrows_carry h.m fun k hk _ => b.block k (lom k hk), h.lo, h.ap⟩
/-- One begun. -/
theorem GyI.first (h : GyB w gq v rs l mv ms x) (wt : Int) : GyI w gq v rs l mv ms x.heap.size wt (.slice none 0 0) [] (x.alloc (.cells #[.int .i64 wt, .int .i64 0, .slice none 0 0] 36)) := by
  have hs := h.q.under
  exact ⟨h.below ((Below.refl _ _).alloc (Nat.le_refl _) _), Boxed.new _ _ _, World.ownsRow_nil _ _ _ 1, by omega, fun i k hi hk => ((h.g.row i hi).lt k hk).2, fun k hk => (World.ownsRow.lt h.g.outer k hk).2, fun k hk => (h.m.lt k hk).2⟩
/-- One size more. -/
theorem GyI.add {y : Int} {u' : Value} (h : GyI w gq v rs l mv ms H wt u sz x) (hr : IRow (H + 1) x' u' (sz ++ [y])) (b : Below (H + 1) x x') : GyI w gq v rs l mv ms H wt u' (sz ++ [y]) (x'.setCell ⟨H, 2, none⟩ u') := by
  have h3 := h.hH
  have bel : Below H x (x'.setCell ⟨H, 2, none⟩ u') := (b.mono (by omega)).setCell (by show H ≤ H; omega) _
  exact ⟨h.d.high h3 h.lo h.lo' h.lom bel, (h.hb.below (by omega) b).put 2 u', hr.carry fun k hk _ => Below.heap_setCell _ _ _ _ (by show k ≠ H; omega), h.hH, h.lo, h.lo', h.lom⟩
/-- One laid behind the others. -/
theorem GyI.done {v' : Value} (h : GyI w gq v rs l mv ms H wt u sz x) (ho : x'.ownsRow (gq + 1) 36 3 v' (l.length + 1) (fwcells (rs ++ [⟨wt, 0, u⟩]))) (gb : Below (gq + 1) x x') (g2 : ∀ k, v.ownBlock ≠ some k → k < x.heap.size → x'.heap[k]? = x.heap[k]?) :
    GyB w gq v' (rs ++ [⟨wt, 0, u⟩]) (l ++ [⟨wt, 0, sz⟩]) mv ms (x'.setCell ⟨gq, 1, none⟩ v') ∧ Boxed (x'.setCell ⟨gq, 1, none⟩ v') H #[.int .i64 wt, .int .i64 0, u] 36 := by
  have h3 := h.hH
  have h1 := h.d.lo
  have hl := h.d.g.len
  have hg : FwG (gq + 1) v' (rs ++ [⟨wt, 0, u⟩]) (l ++ [⟨wt, 0, sz⟩]) x' := h.d.g.add2 (r := ⟨wt, 0, sz⟩) (H := H) h3 h.lo h.lo' (h.r.mono (by omega)) ho g2
  have oth : ∀ y, y ≠ gq → (x'.setCell ⟨gq, 1, none⟩ v').heap[y]? = x'.heap[y]? := fun y hy => Below.heap_setCell _ _ _ _ hy
  have bel : Below w.heap.size x (x'.setCell ⟨gq, 1, none⟩ v') := (gb.mono (by omega)).setCell (by show w.heap.size ≤ gq; omega) _
  have hv : v.ownBlock ≠ some H := fun e => by have := h.lo' H e; omega
  refine ⟨⟨h.d.bel.trans bel, (h.d.q.below (by omega) gb).put 1 v', hg.other fun y hy _ => oth y (by omega), ?_, h.d.lo, fun i k hi hk => ?_⟩, ?_⟩
  · refine fwrows_carry h.d.m fun k hk hlt => ?_
    rw [oth k (by have := (h.d.m.lt k hk).1; omega)]
    exact g2 k (fun e => fwrows_unlike h.d.g.outer h.d.m fwTypes k e hk) hlt
  · rw [List.length_append, List.length_singleton] at hi
    by_cases e : i = l.length
    · subst e
      rw [show fwrAt (rs ++ [⟨wt, 0, u⟩]) l.length = ⟨wt, 0, u⟩ by rw [← hl]; exact fwrAt_new] at hk
      intro hm
      have a1 := h.lom k hm
      have a2 := (h.r.lt k hk).1
      omega
    · rw [fwrAt_old (by omega)] at hk
      exact h.d.ap i k (by omega) hk
  · exact (oth H (by omega)).trans ((g2 H hv h.hb.under).trans h.hb)
/-- Its most behind the others. -/
theorem GyB.most {mv' : Value} {y : Int} (h : GyB w gq v rs l mv ms x) (q1 : IRow (gq + 1) x' mv' (ms ++ [y])) (q2 : Below (gq + 1) x x') (q3 : x.grownBy x' mv.ownBlock) (q4 : mv'.ownBlock = mv.ownBlock ∨ mv'.ownBlock = some x.heap.size) : GyB w gq v rs l mv' (ms ++ [y]) x' := by
  have h1 := h.lo
  refine ⟨h.bel.trans (q2.mono (by omega)), h.q.below (by omega) q2, ⟨fwrows_carry h.g.outer fun k hk hl => q3.block k hl (fun e => fwrows_unlike h.g.outer h.m fwTypes k hk e.symm), h.g.len, h.g.num, fun i hi => fwrows_carry (h.g.row i hi) fun k hk hl => q3.block k hl (fun e => h.ap i k hi hk e.symm), h.g.apart⟩, q1, h.lo, fun i k hi hk => ?_⟩
  rcases q4 with e | e
  · rw [e]; exact h.ap i k hi hk
  · rw [e]
    intro e2
    cases e2
    have := ((h.g.row i hi).lt _ hk).2
    omega
end
end Go.Proofs.Ytllmkolchgmjoaa

/-
  What lies while the model draws rows: the rows that are drawn, the answer's variable, the cursor. By the verifier.
-/
import Derived.Test.YtleokmnhhhhcjaaItDraw
import Derived.Test.YtleokmnhhhhcjaaRwCntS
import Derived.Test.YtleokmnhhhhcjaaRwHasS
import Derived.Test.YtleokmnhhhhcjaaIzGrow
namespace Go.Proofs.Ytleokmnhhhhcjaa
open Go.RowKit

/-- The rows that are drawn (a variable at B), the answer's variable (at A), the cursor. -/
structure DrW (W : World) (bc : Nat) (ac : Option Addr) (len cap : Nat) (w : World) (B : Nat) (f : Int) (n : Nat) (vx : Option Addr) (vc : Nat) (vs : List Value) (ls : List (List It)) (wr : World) : Prop where
  cur : Cur W bc ac len cap wr
  kp : Keep bc w wr
  res : Boxed wr w.heap.size #[.int .i64 0, .slice none 0 0] 26
  out : Boxed wr B #[.int .i64 f, .slice vx n vc] 26
  g : IzG (w.heap.size + 1) (.slice vx n vc) vs ls wr
  hn : ls.length = n
  lt : w.heap.size < B
  bl : bc < w.heap.size
section
variable {W : World} {bc : Nat} {ac : Option Addr} {len cap : Nat} {w : World} {B : Nat} {f : Int} {n : Nat} {vx : Option Addr} {vc : Nat} {vs : List Value} {ls : List (List It)} {wr wd : World}
theorem DrW.draw (h : DrW W bc ac len cap w B f n vx vc vs ls wr) (c : Cur W bc ac len cap wd) (k : Keep bc wr wd) : DrW W bc ac len cap w B f n vx vc vs ls wd := by
  have h1 := h.lt
  have h2 := h.bl
  exact ⟨c, h.kp.trans k, h.res.keep (by omega) k, h.out.keep (by omega) k, h.g.other fun y hy hl => k.block y (by omega) hl, h.hn, h.lt, h.bl⟩
theorem DrW.below (h : DrW W bc ac len cap w B f n vx vc vs ls wr) (g : Below wr.heap.size wr wd) : DrW W bc ac len cap w B f n vx vc vs ls wd :=
  ⟨h.cur.below h.cur.lt g, ⟨Nat.le_trans h.kp.size g.size, fun k k1 k2 => (g.block k (Nat.lt_of_lt_of_le k2 h.kp.size)).trans (h.kp.block k k1 k2)⟩, h.res.below h.res.under g, h.out.below h.out.under g, h.g.below g, h.hn, h.lt, h.bl⟩
/-- The rows' blocks are not the variable's. -/
theorem DrW.apart (h : DrW W bc ac len cap w B f n vx vc vs ls wr) : (Value.slice vx n vc).ownBlock ≠ some B ∧ ∀ i, i < ls.length → (izV vs i).ownBlock ≠ some B := by
  have key : ∀ {e : TypeId} {c m : Nat} {v : Value} {xs : List Value} {b0 : Nat}, wr.ownsRow b0 e c v m xs → e ≠ 26 → v.ownBlock ≠ some B := by
    intro e c m v xs b0 hr hne hv
    rcases hr.2 with ⟨e', _⟩ | ⟨g', cap', cur', e', _, hg', _⟩
    · rw [e'] at hv; cases hv
    · rw [e'] at hv
      cases hv
      have h1 := h.out
      unfold Boxed at h1
      simp only at h1
      rw [h1] at hg'
      simp only [Option.some.injEq, Obj.cells.injEq] at hg'
      exact hne hg'.2.1.symm
  exact ⟨key h.g.outer (by decide), fun i hi => key (h.g.row i hi) (by decide)⟩
/-- One list changed: its new row made behind, or grown in its place. -/
theorem DrW.set {u : Value} {j g : Nat} {l : List It} (h : DrW W bc ac len cap w B f n (some ⟨g, 0, none⟩) vc vs ls wr) (hj : j < ls.length) (hu : ItRow (w.heap.size + 1) wd u l) (hb : Below (w.heap.size + 1) wr wd) (g2 : ∀ k, (izV vs j).ownBlock ≠ some k → k < wr.heap.size → wd.heap[k]? = wr.heap[k]?) (hw : ∀ k, u.ownBlock = some k → (izV vs j).ownBlock = some k ∨ wr.heap.size ≤ k) :
    DrW W bc ac len cap w B f n (some ⟨g, 0, none⟩) vc (vs.set j u) (ls.set j l) (wd.setCell ⟨g, j, none⟩ u) := by
  have h1 := h.lt
  have h2 := h.bl
  have h3 := h.cur.lo
  have hg := (World.ownsRow.lt h.g.outer g rfl)
  have ap := h.apart
  have hgB : g ≠ B := fun e => ap.1 (by rw [← e]; rfl)
  have o : ∀ y, y ≠ g → (wd.setCell ⟨g, j, none⟩ u).heap[y]? = wd.heap[y]? := fun y hy => Below.heap_setCell _ _ _ _ hy
  have bel : Below (w.heap.size + 1) wr (wd.setCell ⟨g, j, none⟩ u) := hb.setCell (by show w.heap.size + 1 ≤ g; exact hg.1) _
  refine ⟨h.cur.below (by omega) bel, ⟨Nat.le_trans h.kp.size bel.size, fun k k1 k2 => (bel.block k (by omega)).trans (h.kp.block k k1 k2)⟩, h.res.below (by omega) bel, ?_, h.g.set hj hu g2 hw (by rw [h.hn]), by rw [List.length_set]; exact h.hn, h.lt, h.bl⟩
  exact ((o B (fun e => hgB e.symm)).trans (g2 B (ap.2 j hj) h.out.under)).trans h.out
/-- The number of the rows changed. -/
theorem DrW.most {z : Int} (h : DrW W bc ac len cap w B f n vx vc vs ls wr) : DrW W bc ac len cap w B z n vx vc vs ls (wr.setCell ⟨B, 0, none⟩ (.int .i64 z)) := by
  have h1 := h.lt
  have h2 := h.bl
  have ap := h.apart
  have o : ∀ y, y ≠ B → (wr.setCell ⟨B, 0, none⟩ (.int .i64 z)).heap[y]? = wr.heap[y]? := fun y hy => Below.heap_setCell _ _ _ _ hy
  have bel : Below (w.heap.size + 1) wr (wr.setCell ⟨B, 0, none⟩ (.int .i64 z)) := (Below.refl _ _).setCell (by show w.heap.size + 1 ≤ B; omega) _
  refine ⟨h.cur.below (by omega) bel, ⟨Nat.le_trans h.kp.size bel.size, fun k k1 k2 => (bel.block k (by omega)).trans (h.kp.block k k1 k2)⟩, h.res.below (by omega) bel, h.out.put 0 _, ?_, h.hn, h.lt, h.bl⟩
  exact ⟨rows_carry h.g.outer fun k hk _ => o k fun e => ap.1 (by rw [← e]; exact hk), h.g.len, fun i hi => (h.g.row i hi).carry fun k hk _ => o k fun e => ap.2 i hi (by rw [← e]; exact hk), h.g.apart⟩
/-- Other lists in their place. -/
theorem DrW.lists {g' n' vc' : Nat} {vs' : List Value} {ls' : List (List It)} (h : DrW W bc ac len cap w B f n vx vc vs ls wr) (hb : Below wr.heap.size wr wd) (hg : IzG wr.heap.size (.slice (some ⟨g', 0, none⟩) n' vc') vs' ls' wd) (hl : ls'.length = n') : DrW W bc ac len cap w B f n' (some ⟨g', 0, none⟩) vc' vs' ls' (wd.setCell ⟨B, 1, none⟩ (.slice (some ⟨g', 0, none⟩) n' vc')) := by
  have h1 := h.lt
  have h2 := h.bl
  have h3 := h.out.under
  have o : ∀ y, y ≠ B → (wd.setCell ⟨B, 1, none⟩ (.slice (some ⟨g', 0, none⟩) n' vc')).heap[y]? = wd.heap[y]? := fun y hy => Below.heap_setCell _ _ _ _ hy
  have bel : Below (w.heap.size + 1) wr (wd.setCell ⟨B, 1, none⟩ (.slice (some ⟨g', 0, none⟩) n' vc')) := (hb.mono (by omega)).setCell (by show w.heap.size + 1 ≤ B; omega) _
  have hg2 : IzG wr.heap.size (.slice (some ⟨g', 0, none⟩) n' vc') vs' ls' (wd.setCell ⟨B, 1, none⟩ (.slice (some ⟨g', 0, none⟩) n' vc')) := hg.other fun k hk _ => o k (by omega)
  refine ⟨h.cur.below (by omega) bel, ⟨Nat.le_trans h.kp.size bel.size, fun k k1 k2 => (bel.block k (by omega)).trans (h.kp.block k k1 k2)⟩, h.res.below (by omega) bel, ((h.out.below h3 hb).put 1 _), ?_, hl, h.lt, h.bl⟩
  refine ⟨⟨hg2.outer.1, hg2.outer.2.imp id ?_⟩, hg2.len, fun i hi => (hg2.row i hi).mono (by omega), hg2.apart⟩
  rintro ⟨g0, c0, cur0, e1, e2, e3⟩
  exact ⟨g0, c0, cur0, e1, by omega, e3⟩
/-- The answer's variable filled. -/
theorem DrW.done (h : DrW W bc ac len cap w B f n vx vc vs ls wr) : RwIn w.heap.size (wr.setRow w.heap.size #[.int .i64 f, .slice vx n vc]).heap.size (wr.setRow w.heap.size #[.int .i64 f, .slice vx n vc]) (.agg #[.int .i64 f, .slice vx n vc]) ⟨f, ls⟩ ∧ Cur W bc ac len cap (wr.setRow w.heap.size #[.int .i64 f, .slice vx n vc]) ∧ Keep bc w (wr.setRow w.heap.size #[.int .i64 f, .slice vx n vc]) := by
  have g1 := h.lt
  have g2 := h.bl
  have g3 := h.cur.lo
  have o : ∀ k, k ≠ w.heap.size → (wr.setRow w.heap.size #[.int .i64 f, .slice vx n vc]).heap[k]? = wr.heap[k]? := fun k hk => setRow_other _ _ _ _ hk
  refine ⟨⟨vx, vc, by unfold Rw.val; simp [h.hn], vs, ?_⟩, h.cur.other (B := w.heap.size) (by omega) o (below_setRow (Below.refl _ _) (by omega) _), ⟨by rw [size_setRow]; exact h.kp.size, fun k q1 q2 => (o k (by omega)).trans (h.kp.block k q1 q2)⟩⟩
  have hg : IzG (w.heap.size + 1) (.slice vx n vc) vs ls (wr.setRow w.heap.size #[.int .i64 f, .slice vx n vc]) := h.g.other fun k hk _ => o k (by omega)
  show IzV _ _ _ (.slice vx ls.length vc) vs ls
  rw [h.hn]
  exact hg.done.wide (by omega) (Nat.le_refl _) (Nat.le_refl _)
theorem DrW.at' (h : DrW W bc ac len cap w B f n vx vc vs ls wr) : IzAt wr vx ls := by
  have := h.g.done
  rw [← h.hn] at this
  exact this.at
end
/-- So many empty lists. -/
theorem izG_made (w : World) (n : Nat) (hn : n ≤ 1000) (base : Nat) (hb : base ≤ w.heap.size) : IzG base (.slice (some ⟨w.heap.size, 0, none⟩) n n) (List.replicate n (.slice none 0 0)) (List.replicate n []) (w.alloc (.cells (madeCells #[.slice none 0 0] (n * 1)) 41)) := by
  have ev : ∀ i, i < n → izV (List.replicate n (.slice none 0 0)) i = .slice none 0 0 := fun i hi => by unfold izV; rw [List.getElem?_replicate]; simp [hi]
  refine ⟨?_, by simp, fun i hi => ?_, fun i j k hi hj hne h1 => ?_⟩
  · have := World.ownsRow_lit (size := 1) (e := 41) (base := base) w (madeCells #[.slice none 0 0] (n * 1)) n hb (by unfold maxLen; omega) (by rw [size_madeCells])
    have e : (madeCells #[Value.slice none 0 0] (n * 1)).toList = List.replicate n (.slice none 0 0) := by
      apply List.ext_getElem?
      intro i
      by_cases hi : i < n
      · simp [madeCells, hi, Nat.mod_one]
      · rw [List.getElem?_eq_none (by simp [madeCells]; omega), List.getElem?_eq_none (by simp; omega)]
    rw [e] at this
    simpa using this
  · rw [List.length_replicate] at hi
    have e2 : izAt (List.replicate n ([] : List It)) i = [] := by simp [izAt, hi]
    rw [ev i hi, e2]
    exact World.ownsRow_nil _ base _ 3
  · rw [List.length_replicate] at hi
    rw [ev i hi] at h1
    cases h1
end Go.Proofs.Ytleokmnhhhhcjaa

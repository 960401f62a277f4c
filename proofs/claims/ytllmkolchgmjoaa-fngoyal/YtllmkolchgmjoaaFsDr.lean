/-
  What lies while the model draws flows: the flows that are drawn, the one that is drawn, the answer's variable, the cursor. By the verifier.
-/
import Derived.Test.YtllmkolchgmjoaaFsServe
import Derived.Test.YtllmkolchgmjoaaDrawCur
namespace Go.Proofs.Ytllmkolchgmjoaa
open Go.RowKit

/-- One more: its list u lies in blocks that none of the others has. -/
theorem FwG.add2 {base : Nat} {v v' u : Value} {rs : List Fwr} {l : List Fw} {wd wx : World} (h : FwG base v rs l wd) {r : Fw} {H : Nat} (hb : base ≤ H) (lo : ∀ i k, i < l.length → (fwrAt rs i).hd.ownBlock = some k → k < H) (lo' : ∀ k, v.ownBlock = some k → k < H) (hu : IRow H wd u r.sizes)
    (ho : wx.ownsRow base 36 3 v' (l.length + 1) (fwcells (rs ++ [⟨r.weight, r.finish, u⟩]))) (g2 : ∀ k, v.ownBlock ≠ some k → k < wd.heap.size → wx.heap[k]? = wd.heap[k]?) :
    FwG base v' (rs ++ [⟨r.weight, r.finish, u⟩]) (l ++ [r]) wx := by
  have hl := h.len
  have e1 : ∀ i, i < l.length → fwrAt (rs ++ [⟨r.weight, r.finish, u⟩]) i = fwrAt rs i := fun i hi => fwrAt_old (by omega)
  have e2 : fwrAt (rs ++ [⟨r.weight, r.finish, u⟩]) l.length = ⟨r.weight, r.finish, u⟩ := by rw [← hl]; exact fwrAt_new
  refine ⟨by simpa using ho, by simp [hl], fun i hi => ?_, fun i hi => ?_, fun i j k hi hj hne h1 h2 => ?_⟩
  · rw [List.length_append, List.length_singleton] at hi
    by_cases e : i = l.length
    · subst e
      rw [e2, fwAt_new]
      exact ⟨rfl, rfl⟩
    · rw [e1 i (by omega), fwAt_old (by omega)]
      exact h.num i (by omega)
  · rw [List.length_append, List.length_singleton] at hi
    by_cases e : i = l.length
    · subst e
      rw [e2, fwAt_new]
      have hu' : IRow H wx u r.sizes := fwrows_carry hu fun k hk hlt => g2 k (fun q => by have a1 := (hu.lt k hk).1; have a2 := lo' k q; omega) hlt
      exact hu'.mono hb
    · rw [e1 i (by omega), fwAt_old (by omega)]
      refine fwrows_carry (h.row i (by omega)) fun k hk hlt => g2 k (fun q => ?_) hlt
      exact fwrows_unlike h.outer (h.row i (by omega)) fwTypes k q hk
  · rw [List.length_append, List.length_singleton] at hi hj
    have new : ∀ i, i < l.length → (fwrAt rs i).hd.ownBlock = some k → u.ownBlock ≠ some k := fun i hi a1 a2 => by
      have b1 := lo i k hi a1
      have b2 := (hu.lt k a2).1
      omega
    by_cases ei : i = l.length
    · subst ei
      rw [e2] at h1
      rw [e1 j (by omega)] at h2
      exact new j (by omega) h2 h1
    · rw [e1 i (by omega)] at h1
      by_cases ej : j = l.length
      · subst ej
        rw [e2] at h2
        exact new i (by omega) h1 h2
      · rw [e1 j (by omega)] at h2
        exact h.apart i j k (by omega) (by omega) hne h1 h2

/-- The flows that are drawn, the answer's variable, the cursor. -/
structure FdW (W : World) (bc : Nat) (ac : Option Addr) (len cap : Nat) (w : World) (f : Int) (v : Value) (rs : List Fwr) (l : List Fw) (x : World) : Prop where
  cur : Cur W bc ac len cap x
  kp : Keep bc w x
  res : Boxed x w.heap.size #[.int .i64 0, .slice none 0 0] 26
  out : Boxed x (w.heap.size + 1) #[.int .i64 f, v] 26
  g : FwG (w.heap.size + 2) v rs l x
  bl : bc < w.heap.size
  sm : ∀ k, k < l.length → (fwAt l k).sizes.length ≤ 40
/-- One that is drawn beside them. -/
structure FdI (W : World) (bc : Nat) (ac : Option Addr) (len cap : Nat) (w : World) (f : Int) (v : Value) (rs : List Fwr) (l : List Fw) (H : Nat) (wt : Int) (u : Value) (sz : List Int) (x : World) : Prop where
  d : FdW W bc ac len cap w f v rs l x
  hb : Boxed x H #[.int .i64 wt, .int .i64 0, u] 36
  r : IRow (H + 1) x u sz
  hH : w.heap.size + 2 ≤ H
  lo : ∀ i k, i < l.length → (fwrAt rs i).hd.ownBlock = some k → k < H
  lo' : ∀ k, v.ownBlock = some k → k < H
section
variable {W : World} {bc : Nat} {ac : Option Addr} {len cap : Nat} {w : World} {v u : Value} {rs : List Fwr} {l : List Fw} {H g j q : Nat} {sz : List Int} {f wt : Int} {x x' : World}
theorem FdW.draw (h : FdW W bc ac len cap w f v rs l x) (c : Cur W bc ac len cap x') (k : Keep bc x x') : FdW W bc ac len cap w f v rs l x' := by
  have h2 := h.bl
  exact ⟨c, h.kp.trans k, h.res.keep (by omega) k, h.out.keep (by omega) k, h.g.other fun y hy hl => k.block y (by omega) hl, h.bl, h.sm⟩
theorem FdW.below (h : FdW W bc ac len cap w f v rs l x) (g : Below x.heap.size x x') : FdW W bc ac len cap w f v rs l x' :=
  ⟨h.cur.below h.cur.lt g, ⟨Nat.le_trans h.kp.size g.size, fun k k1 k2 => (g.block k (Nat.lt_of_lt_of_le k2 h.kp.size)).trans (h.kp.block k k1 k2)⟩, h.res.below h.res.under g, h.out.below h.out.under g, h.g.below g, h.bl, h.sm⟩
/-- What lies from H on is turned. -/
theorem FdW.high (h : FdW W bc ac len cap w f v rs l x) (hH : w.heap.size + 2 ≤ H) (lo : ∀ i k, i < l.length → (fwrAt rs i).hd.ownBlock = some k → k < H) (lo' : ∀ k, v.ownBlock = some k → k < H) (g : Below H x x') : FdW W bc ac len cap w f v rs l x' := by
  have h2 := h.bl
  have h3 := h.kp.size
  refine ⟨h.cur.below (by omega) g, ⟨Nat.le_trans h3 g.size, fun k k1 k2 => (g.block k (by omega)).trans (h.kp.block k k1 k2)⟩, h.res.below (by omega) g, h.out.below (by omega) g, ?_, h.bl, h.sm⟩
  exact ⟨fwrows_carry h.g.outer fun k hk _ => g.block k (lo' k hk), h.g.len, h.g.num, fun i hi => fwrows_carry (h.g.row i hi) fun k hk _ => g.block k (lo i k hi hk), h.g.apart⟩
/-- Other flows, another time: what lies below is as it was. -/
theorem FdW.other {f' : Int} {rs' : List Fwr} {l' : List Fw} (h : FdW W bc ac len cap w f v rs l x) (b : Below (w.heap.size + 1) x x') (ho : Boxed x' (w.heap.size + 1) #[.int .i64 f', v] 26) (hg : FwG (w.heap.size + 2) v rs' l' x') (hs : ∀ k, k < l'.length → (fwAt l' k).sizes.length ≤ 40) : FdW W bc ac len cap w f' v rs' l' x' := by
  have h2 := h.bl
  exact ⟨h.cur.below (by omega) b, ⟨Nat.le_trans h.kp.size b.size, fun k k1 k2 => (b.block k (by omega)).trans (h.kp.block k k1 k2)⟩, h.res.below (by omega) b, ho, hg, h.bl, hs⟩
theorem FdI.draw (h : FdI W bc ac len cap w f v rs l H wt u sz x) (c : Cur W bc ac len cap x') (k : Keep bc x x') : FdI W bc ac len cap w f v rs l H wt u sz x' := by
  have h2 := h.d.bl
  have h3 := h.hH
  exact ⟨h.d.draw c k, h.hb.keep (by omega) k, h.r.carry fun y hy hl => k.block y (by omega) hl, h.hH, h.lo, h.lo'⟩
theorem FdI.below (h : FdI W bc ac len cap w f v rs l H wt u sz x) (g : Below x.heap.size x x') : FdI W bc ac len cap w f v rs l H wt u sz x' :=
  ⟨h.d.below g, h.hb.below h.hb.under g, h.r.carry fun y _ hl => g.block y hl, h.hH, h.lo, h.lo'⟩
/-- One begun. -/
theorem FdI.first (h : FdW W bc ac len cap w f v rs l x) (wt : Int) : FdI W bc ac len cap w f v rs l x.heap.size wt (.slice none 0 0) [] (x.alloc (.cells #[.int .i64 wt, .int .i64 0, .slice none 0 0] 36)) := by
  have hs := h.out.under
  exact ⟨h.below ((Below.refl _ _).alloc (Nat.le_refl _) _), Boxed.new _ _ _, World.ownsRow_nil _ _ _ 1, by omega, fun i k hi hk => ((h.g.row i hi).lt k hk).2, fun k hk => (World.ownsRow.lt h.g.outer k hk).2⟩
/-- One size more. -/
theorem FdI.add {y : Int} {u' : Value} (h : FdI W bc ac len cap w f v rs l H wt u sz x) (hr : IRow (H + 1) x' u' (sz ++ [y])) (g : Below (H + 1) x x') : FdI W bc ac len cap w f v rs l H wt u' (sz ++ [y]) (x'.setCell ⟨H, 2, none⟩ u') := by
  have h3 := h.hH
  have bel : Below H x (x'.setCell ⟨H, 2, none⟩ u') := (g.mono (by omega)).setCell (by show H ≤ H; omega) _
  exact ⟨h.d.high h3 h.lo h.lo' bel, (h.hb.below (by omega) g).put 2 u', hr.carry fun k hk _ => Below.heap_setCell _ _ _ _ (by show k ≠ H; omega), h.hH, h.lo, h.lo'⟩
/-- One done. -/
theorem FdI.done {v' : Value} (h : FdI W bc ac len cap w f v rs l H wt u sz x) (hl : sz.length ≤ 40) (ho : x'.ownsRow (w.heap.size + 2) 36 3 v' (l.length + 1) (fwcells (rs ++ [⟨wt, 0, u⟩]))) (gb : Below (w.heap.size + 2) x x') (g2 : ∀ k, v.ownBlock ≠ some k → k < x.heap.size → x'.heap[k]? = x.heap[k]?) :
    FdW W bc ac len cap w f v' (rs ++ [⟨wt, 0, u⟩]) (l ++ [⟨wt, 0, sz⟩]) (x'.setCell ⟨w.heap.size + 1, 1, none⟩ v') := by
  have h3 := h.hH
  have h2 := h.d.bl
  have h4 := h.d.kp.size
  have hg : FwG (w.heap.size + 2) v' (rs ++ [⟨wt, 0, u⟩]) (l ++ [⟨wt, 0, sz⟩]) x' := h.d.g.add2 (r := ⟨wt, 0, sz⟩) (H := H) h3 h.lo h.lo' (h.r.mono (by omega)) ho g2
  have oth : ∀ y, y ≠ w.heap.size + 1 → (x'.setCell ⟨w.heap.size + 1, 1, none⟩ v').heap[y]? = x'.heap[y]? := fun y hy => Below.heap_setCell _ _ _ _ hy
  have bel : Below (w.heap.size + 1) x (x'.setCell ⟨w.heap.size + 1, 1, none⟩ v') := (gb.mono (by omega)).setCell (by show w.heap.size + 1 ≤ w.heap.size + 1; omega) _
  refine ⟨h.d.cur.below (by omega) bel, ⟨Nat.le_trans h4 bel.size, fun k k1 k2 => (bel.block k (by omega)).trans (h.d.kp.block k k1 k2)⟩, h.d.res.below (by omega) bel, (h.d.out.below (by omega) gb).put 1 v', hg.other fun y hy _ => oth y (by omega), h.d.bl, fun k hk => ?_⟩
  rw [List.length_append, List.length_singleton] at hk
  by_cases e : k = l.length
  · subst e; rw [fwAt_new]; exact hl
  · rw [fwAt_old (by omega)]; exact h.d.sm k (by omega)
theorem small_setF {r : Fw} (h : ∀ k, k < l.length → (fwAt l k).sizes.length ≤ 40) (hr : r.sizes.length ≤ 40) (h0 : j < l.length) : ∀ k, k < (l.set j r).length → (fwAt (l.set j r) k).sizes.length ≤ 40 := by
  intro k hk
  rw [List.length_set] at hk
  by_cases e : k = j
  · subst e; rw [fwAt_set h0]; exact hr
  · rw [fwAt_other e]; exact h k hk
/-- The time put. -/
theorem FdW.now (h : FdW W bc ac len cap w f v rs l x) (z : Int) : FdW W bc ac len cap w z v rs l (x.setCell ⟨w.heap.size + 1, 0, none⟩ (.int .i64 z)) :=
  h.other ((Below.refl _ _).setCell (by show w.heap.size + 1 ≤ w.heap.size + 1; omega) _) (h.out.put 0 _) (h.g.other fun y hy _ => Below.heap_setCell _ _ _ _ (by show y ≠ w.heap.size + 1; omega)) h.sm
/-- The weight of one put. -/
theorem FdW.weight (h : FdW W bc ac len cap w f (.slice (some ⟨g, 0, none⟩) l.length q) rs l x) (hj : j < l.length) (hg : w.heap.size + 2 ≤ g) (z : Int) :
    ∃ rs' l', FdW W bc ac len cap w f (.slice (some ⟨g, 0, none⟩) l.length q) rs' l' (x.setCell ⟨g, j * 3, none⟩ (.int .i64 z)) ∧ l'.length = l.length :=
  ⟨_, _, h.other ((Below.refl _ _).setCell (by show w.heap.size + 1 ≤ g; omega) _) (h.out.far (by omega) _ _) (h.g.weight hj z) (small_setF h.sm (h.sm j hj) hj), by simp⟩
/-- The end of one put. -/
theorem FdW.finish (h : FdW W bc ac len cap w f (.slice (some ⟨g, 0, none⟩) l.length q) rs l x) (hj : j < l.length) (hg : w.heap.size + 2 ≤ g) (z : Int) :
    ∃ rs' l', FdW W bc ac len cap w f (.slice (some ⟨g, 0, none⟩) l.length q) rs' l' (x.setCell ⟨g, j * 3 + 1, none⟩ (.int .i64 z)) ∧ l'.length = l.length :=
  ⟨_, _, h.other ((Below.refl _ _).setCell (by show w.heap.size + 1 ≤ g; omega) _) (h.out.far (by omega) _ _) (h.g.finish hj z) (small_setF h.sm (h.sm j hj) hj), by simp⟩
/-- The list of one grew. -/
theorem FdW.sizes {hd uv : Value} {y : Int} (h : FdW W bc ac len cap w f (.slice (some ⟨g, 0, none⟩) l.length q) rs l x) (hj : j < l.length) (hg : w.heap.size + 2 ≤ g) (ehd : (fwrAt rs j).hd = hd) (hs : (fwAt l j).sizes.length + 1 ≤ 40)
    (q1 : IRow (w.heap.size + 2) x' uv ((fwAt l j).sizes ++ [y])) (q2 : Below (w.heap.size + 2) x x') (q3 : x.grownBy x' hd.ownBlock) (q4 : uv.ownBlock = hd.ownBlock ∨ uv.ownBlock = some x.heap.size) :
    (∃ rs' l', FdW W bc ac len cap w f (.slice (some ⟨g, 0, none⟩) l.length q) rs' l' (x'.setCell ⟨g, j * 3 + 2, none⟩ uv) ∧ l'.length = l.length ∧ (fwrAt rs' j).hd = uv ∧ (fwAt l' j).sizes = (fwAt l j).sizes ++ [y]) ∧ x'.cell? ⟨g, j * 3 + 2, none⟩ = some hd ∧ x'.frozen? ⟨g, j * 3 + 2, none⟩ = false := by
  subst ehd
  have hr := h.g.row j hj
  have hrl : j < rs.length := by rw [h.g.len]; exact hj
  have hG := h.g.sizes hj q1 (fun k hk hn => q3.block k hk (fun e => hn e.symm)) (fun k hk => by
    rcases q4 with q | q
    · left; rw [← q]; exact hk
    · right; rw [q] at hk; cases hk; exact Nat.le_refl _)
  have hgo : x'.heap[g]? = x.heap[g]? := q3.block g (by obtain ⟨g', c', e', _, h'⟩ := h.g.place hj; have e2 := (Value.slice.inj e').1; simp only [Option.some.injEq, Addr.mk.injEq] at e2; rw [e2.1]; exact h') (fun e => h.g.off hr e.symm)
  have C := h.g.cells hj
  refine ⟨⟨_, _, h.other ((q2.mono (by omega)).setCell (by show w.heap.size + 1 ≤ g; omega) _) ((h.out.below (by omega) q2).far (by omega) _ _) hG (small_setF h.sm (by simpa using hs) hj), by simp, by rw [fwrAt_set hrl], by rw [fwAt_set hj]⟩, by rw [cell_kept hgo]; exact C.2.2.1, by rw [ice_kept hgo]; exact C.2.2.2 _⟩
/-- One was served. -/
theorem FdW.serve {z : Fs} (h : FdW W bc ac len cap w f v rs l x) (s : SvP (w.heap.size + 2) (w.heap.size + 1) v z x x') (hs : ∀ k, k < z.flows.length → (fwAt z.flows k).sizes.length ≤ 40) : ∃ rs', FdW W bc ac len cap w z.now v rs' z.flows x' := by
  obtain ⟨⟨rs', h1, h2⟩, h3⟩ := s
  exact ⟨rs', h.other (h3.below (by omega) (by omega)) h2 h1 hs⟩
/-- What was drawn. -/
theorem FdW.fin (h : FdW W bc ac len cap w f v rs l x) (h4 : l.length ≤ 4) (o : ∀ k, k ≠ w.heap.size → x'.heap[k]? = x.heap[k]?) (hs : x.heap.size ≤ x'.heap.size) (ho : Below W.heap.size x x') : (∃ d, FsIn w.heap.size x'.heap.size x' (.agg #[.int .i64 f, v]) d ∧ d.big ≤ 200) ∧ Cur W bc ac len cap x' ∧ Keep bc w x' := by
  have h2 := h.bl
  have G2 : FwG (w.heap.size + 2) v rs l x' := h.g.other fun k hk _ => o k (by omega)
  obtain ⟨p, q, e⟩ := fwrows_shape G2.outer
  subst e
  refine ⟨⟨⟨f, l⟩, ⟨p, q, rfl, rs, G2.done.wide (by omega) (Nat.le_refl _) (Nat.le_refl _)⟩, ?_⟩, h.cur.other (B := w.heap.size) (by omega) o ho, ⟨Nat.le_trans h.kp.size hs, fun k k1 k2 => (o k (by omega)).trans (h.kp.block k k1 k2)⟩⟩
  have : ∀ k, k ≤ l.length → fwSum l k ≤ 40 * k := by
    intro k
    induction k with
    | zero => intro _; rw [fwSum_zero]; omega
    | succ k ih =>
      intro hk
      have a1 := ih (by omega)
      have a2 := h.sm k (by omega)
      rw [fwSum_succ (by omega)]
      omega
  have := this l.length (Nat.le_refl _)
  unfold Fs.big
  simp only
  omega
end
end Go.Proofs.Ytllmkolchgmjoaa

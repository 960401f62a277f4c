/-
  What lies while the model draws a deal: the hosts that are drawn, the host that is drawn, the answer's variable, the cursor. By the verifier.
-/
import Derived.Test.YtojmghnbekneiaaDlPlain
import Derived.Test.YtojmghnbekneiaaHsGrow
import Derived.Test.YtojmghnbekneiaaHsPut
import Derived.Test.YtojmghnbekneiaaDrawFrom
import Derived.Test.YtojmghnbekneiaaM4DrawO
import Derived.Test.YtojmghnbekneiaaM0DrawCur
import Derived.Test.YtojmghnbekneiaaStepRow
namespace Go.Proofs.Ytojmghnbekneiaa
open Go.RowKit

/-- One more: its list u lies in blocks that none of the others has. -/
theorem HsG.add2 {base : Nat} {v v' u : Value} {rs : List Hsr} {l : List Hs} {wd wx : World} (h : HsG base v rs l wd) {r : Hs} {H : Nat} (hb : base ≤ H) (lo : ∀ i k, i < l.length → (hsrAt rs i).hd.ownBlock = some k → k < H) (lo' : ∀ k, v.ownBlock = some k → k < H) (hu : IRow H wd u r.flows)
    (ho : wx.ownsRow base 35 2 v' (l.length + 1) (hscells (rs ++ [⟨r.turn, u⟩]))) (g2 : ∀ k, v.ownBlock ≠ some k → k < wd.heap.size → wx.heap[k]? = wd.heap[k]?) :
    HsG base v' (rs ++ [⟨r.turn, u⟩]) (l ++ [r]) wx := by
  have hl := h.len
  have e1 : ∀ i, i < l.length → hsrAt (rs ++ [⟨r.turn, u⟩]) i = hsrAt rs i := fun i hi => hsrAt_old (by omega)
  have e2 : hsrAt (rs ++ [⟨r.turn, u⟩]) l.length = ⟨r.turn, u⟩ := by rw [← hl]; exact hsrAt_new
  refine ⟨by simpa using ho, by simp [hl], fun i hi => ?_, fun i hi => ?_, fun i j k hi hj hne h1 h2 => ?_⟩
  · rw [List.length_append, List.length_singleton] at hi
    by_cases e : i = l.length
    · subst e
      rw [e2, hsAt_new]
    · rw [e1 i (by omega), hsAt_old (by omega)]
      exact h.num i (by omega)
  · rw [List.length_append, List.length_singleton] at hi
    by_cases e : i = l.length
    · subst e
      rw [e2, hsAt_new]
      have hu' : IRow H wx u r.flows := hsrows_carry hu fun k hk hlt => g2 k (fun q => by have a1 := (hu.lt k hk).1; have a2 := lo' k q; omega) hlt
      exact hu'.mono hb
    · rw [e1 i (by omega), hsAt_old (by omega)]
      refine hsrows_carry (h.row i (by omega)) fun k hk hlt => g2 k (fun q => ?_) hlt
      exact hsrows_unlike h.outer (h.row i (by omega)) hsTypes k q hk
  · rw [List.length_append, List.length_singleton] at hi hj
    have new : ∀ i, i < l.length → (hsrAt rs i).hd.ownBlock = some k → u.ownBlock ≠ some k := fun i hi a1 a2 => by
      have b1 := lo i k hi a1
      have b2 := (hu.lt k a2).1
      omega
    by_cases ei : i = l.length
    · subst ei
      rw [e2] at h1
      rw [e1 j (by omega)] at h2
      exact new j (by omega) h2 h1
    · rw [e1 i (by omega)] at h1
      by_cases ej : j = l.length
      · subst ej
        rw [e2] at h2
        exact new i (by omega) h1 h2
      · rw [e1 j (by omega)] at h2
        exact h.apart i j k (by omega) (by omega) hne h1 h2
/-- One record more, ahead of what follows. -/
theorem hs_row_one {ops : Array Oper} {rest : List Oper} {o : Oper} {a : Act} {Q : Exit → Act → World → Prop} {w : World} (hgd : o.guard = none) (s x : Operand)
    (ho : o.op = .call { callee := .builtin .append, args := #[s, x], argTypes := #[24, 24] })
    (base : Nat) (v : Value) (k : Nat) (rs : List Hsr) (t : Int) (u : Value) (hu : u.oneCell' = true) (hs : a.eval s = v) (hrow : w.ownsRow base 35 2 v k (hscells rs)) (hx : a.eval x = .slice (some ⟨w.heap.size, 0, none⟩) 1 1)
    (hlen : k ≤ 1048576) (hb : base ≤ w.heap.size)
    (h : ∀ v' w', w'.ownsRow base 35 2 v' (k + 1) (hscells (rs ++ [⟨t, u⟩])) → Below base w w' → (∀ y, v.ownBlock ≠ some y → y < w.heap.size → w'.heap[y]? = w.heap[y]?) → wpList Try.prog ops Q rest (a.put o.dst v') w') :
    wpList Try.prog ops Q (o :: rest) a (w.alloc (.cells #[.int .i64 t, u] 35)) := by
  obtain ⟨i0, hi, hz0, hz1, hz2⟩ := info_parts hsInfo
  have hnew : (w.alloc (.cells #[.int .i64 t, u] 35)).ownsRow w.heap.size 35 2 (.slice (some ⟨w.heap.size, 0, none⟩) 1 1) 1 [.int .i64 t, u] := World.ownsRow_lit (size := 2) w #[.int .i64 t, u] 1 (Nat.le_refl _) (by unfold maxLen; omega) rfl
  refine wpList_append_own _ hgd s x 24 ho base 35 i0 _ 2 32 Try.underlying24 hi hz0 hz1 hz2 rfl (by decide) _ _ _ hs (World.ownsRow.alloc hrow _) ⟨w.heap.size, 0, none⟩ 1 1 [.int .i64 t, u] hx rfl (hnew.cells (g := w.heap.size) rfl) ?_ ?_ ?_ ?_ ?_
  · intro y hy
    simp only [List.mem_cons, List.not_mem_nil, or_false] at hy
    rcases hy with rfl | rfl
    · rfl
    · exact hu
  · unfold maxLen; omega
  · omega
  · simp; omega
  · intro v' w' h1 h2 _
    refine h v' w' ?_ ?_ ?_
    · rw [hscells_append]
      exact h1
    · exact ((Below.refl base w).alloc hb _).grown h2 (by simp; omega) (fun j hj => (World.ownsRow.lt hrow j hj).1)
    · intro j hj hl
      rw [h2.block j (by simp; omega) (fun e => hj e.symm), Below.heap_alloc _ _ _ hl]
/-- The list of one is another one, that lies behind. -/
theorem HsV.fresh {b t t' : Nat} {w w1 : World} {v u : Value} {rs : List Hsr} {l : List Hs} (h : HsV b t w v rs l) {j : Nat} (hj : j < l.length) {x off c : Nat} (e : v = .slice (some ⟨x, off, none⟩) l.length c) (g : Below w.heap.size w w1) {fl : List Int} (hu : IntIn w.heap.size t' w1 u fl)
    (hc : ∃ a c, u = .slice a fl.length c ∧ fl.length ≤ c ∧ (a = none → c = 0)) (hb : b ≤ w.heap.size) (ht : w.heap.size ≤ t') (hs : t' ≤ w1.heap.size) (htw : t ≤ w.heap.size) :
    HsV b t' (w1.setCell ⟨x, off + (j * 2 + 1), none⟩ u) v (rs.set j ⟨(hsAt l j).turn, u⟩) (l.set j ⟨(hsAt l j).turn, fl⟩) := by
  have hl := h.len
  have hcl := hscells_length rs
  have h1 : HsV b t' w1 v rs l := (h.below g).wide (Nat.le_refl _) (by omega) hs
  have ho := h1.outer
  have hx : x < w.heap.size := by
    have := h.outer.in (k := x) (o := off) ⟨off, _, c, e, Nat.le_refl _, by omega⟩
    omega
  rw [e] at ho
  have hp := SlIn.put ho (j * 2 + 1) (by omega) u
  have hnum := h.num j hj
  have hg := hscells_get rs j (by omega)
  have hset : (hscells rs).set (j * 2 + 1) u = hscells (rs.set j ⟨(hsAt l j).turn, u⟩) := by
    rw [← hscells_set rs j ⟨(hsAt l j).turn, u⟩]
    have e0 : (hscells rs).set (j * 2) (.int .i64 (hsAt l j).turn) = hscells rs := by
      apply List.ext_getElem?
      intro i
      by_cases hi : i = j * 2
      · subst hi
        rw [List.getElem?_set_self (by omega), hg.1, hnum]
      · rw [List.getElem?_set_ne (fun q => hi q.symm)]
    rw [e0]
  rw [hset] at hp
  have tn : Turn (fun k p => k = x ∧ p = off + (j * 2 + 1)) w1 (w1.setCell ⟨x, off + (j * 2 + 1), none⟩ u) := turn_set _ _ _ _
  have hit : ∀ k p, (k = x ∧ p = off + (j * 2 + 1)) → Hits v (l.length * 2) k p := by
    rintro k p ⟨rfl, rfl⟩
    exact ⟨off, _, c, e, by omega, by omega⟩
  have er : ∀ i, i ≠ j → hsrAt (rs.set j ⟨(hsAt l j).turn, u⟩) i = hsrAt rs i := fun i hi => hsrAt_other hi
  have er2 : hsrAt (rs.set j ⟨(hsAt l j).turn, u⟩) j = ⟨(hsAt l j).turn, u⟩ := hsrAt_set (by omega)
  have el : ∀ i, i ≠ j → hsAt (l.set j ⟨(hsAt l j).turn, fl⟩) i = hsAt l i := fun i hi => hsAt_other hi
  have el2 : hsAt (l.set j ⟨(hsAt l j).turn, fl⟩) j = ⟨(hsAt l j).turn, fl⟩ := hsAt_set hj
  have far : ∀ k p, Hits u fl.length k p → w.heap.size ≤ k := fun k p hh => (SlIn.in hu (by simpa using hh)).1
  have near : ∀ i k p, i < l.length → Hits (hsrAt rs i).hd (hsAt l i).flows.length k p → k < w.heap.size := fun i k p hi hh => by
    have := (SlIn.in (h.row i hi) (by simpa using hh)).2
    omega
  refine ⟨by rw [List.length_set, e]; exact hp, by simp [hl], fun i hi => ?_, fun i hi => ?_, fun i hi => ?_, fun i k y o hi hk hne q1 q2 => ?_, fun i y o hi q1 q2 => ?_⟩
  · rw [List.length_set] at hi
    by_cases hij : i = j
    · subst hij; rw [er2, el2]
    · rw [er i hij, el i hij]; exact h.num i hi
  · rw [List.length_set] at hi
    by_cases hij : i = j
    · subst hij
      rw [er2, el2]
      refine SlIn.turn (SlIn.wide hu hb (Nat.le_refl _) hs) tn ?_
      rintro k p hh ⟨rfl, rfl⟩
      have := (SlIn.in hu hh).1
      omega
    · rw [er i hij, el i hij]
      refine SlIn.turn (h1.row i hi) tn fun k p hh hq => h.free i k p hi (by simpa using hh) (hit k p hq)
  · rw [List.length_set] at hi
    by_cases hij : i = j
    · subst hij; rw [er2, el2]; exact hc
    · rw [er i hij, el i hij]; exact h.cap i hi
  · rw [List.length_set] at hi hk
    by_cases hij : i = j
    · subst hij
      rw [er2, el2] at q1
      rw [er k (Ne.symm hne), el k (Ne.symm hne)] at q2
      have a1 := far _ _ q1
      have a2 := near k _ _ hk q2
      omega
    · rw [er i hij, el i hij] at q1
      by_cases hkj : k = j
      · subst hkj
        rw [er2, el2] at q2
        have a1 := far _ _ q2
        have a2 := near i _ _ hi q1
        omega
      · rw [er k hkj, el k hkj] at q2
        exact h.apart i k y o hi hk hne q1 q2
  · rw [List.length_set] at hi q2
    by_cases hij : i = j
    · subst hij
      rw [er2, el2] at q1
      have a1 := far _ _ q1
      have a2 := (h.outer.in (k := y) (o := o) (by rw [hcl, hl]; exact q2)).2
      omega
    · rw [er i hij, el i hij] at q1
      exact h.free i y o hi q1 q2

/-- The hosts that are drawn, the answer's variable, the cursor. -/
structure DdW (W : World) (bc : Nat) (ac : Option Addr) (len cap : Nat) (w : World) (v : Value) (rs : List Hsr) (l : List Hs) (x : World) : Prop where
  cur : Cur W bc ac len cap x
  kp : Keep bc w x
  res : Boxed x w.heap.size #[.int .i64 0, .slice none 0 0] 26
  out : Boxed x (w.heap.size + 1) #[.int .i64 0, v] 26
  g : HsG (w.heap.size + 2) v rs l x
  bl : bc < w.heap.size
  sm : ∀ k, k < l.length → 1 ≤ (hsAt l k).flows.length ∧ (hsAt l k).flows.length ≤ 9
/-- One host that is drawn beside them. -/
structure DdI (W : World) (bc : Nat) (ac : Option Addr) (len cap : Nat) (w : World) (v : Value) (rs : List Hsr) (l : List Hs) (H : Nat) (u : Value) (fl : List Int) (x : World) : Prop where
  d : DdW W bc ac len cap w v rs l x
  hb : ∃ t, Boxed x H #[.int .i64 t, u] 35
  r : IRow (H + 1) x u fl
  hH : w.heap.size + 2 ≤ H
  lo : ∀ i k, i < l.length → (hsrAt rs i).hd.ownBlock = some k → k < H
  lo' : ∀ k, v.ownBlock = some k → k < H
/-- A deal that was drawn. -/
structure DdV (W : World) (bc : Nat) (ac : Option Addr) (len cap : Nat) (w : World) (f : Int) (b n q t : Nat) (rs : List Hsr) (l : List Hs) (x : World) : Prop where
  cur : Cur W bc ac len cap x
  kp : Keep bc w x
  res : Boxed x w.heap.size #[.int .i64 0, .slice none 0 0] 26
  out : Boxed x (w.heap.size + 1) #[.int .i64 f, .slice (some ⟨b, 0, none⟩) n q] 26
  mem : HsV (w.heap.size + 2) t x (.slice (some ⟨b, 0, none⟩) n q) rs l
  up : t ≤ x.heap.size
  hn : l.length = n
  bl : bc < w.heap.size
  n0 : 1 ≤ n
  n4 : n ≤ 4
  sm : ∀ k, k < l.length → (hsAt l k).flows.length ≤ 9
section
variable {W : World} {bc : Nat} {ac : Option Addr} {len cap : Nat} {w : World} {v u : Value} {rs : List Hsr} {l : List Hs} {H : Nat} {fl : List Int} {f : Int} {b n q t : Nat} {x x' : World}
theorem DdW.draw (h : DdW W bc ac len cap w v rs l x) (c : Cur W bc ac len cap x') (k : Keep bc x x') : DdW W bc ac len cap w v rs l x' := by
  have h2 := h.bl
  exact ⟨c, h.kp.trans k, h.res.keep (by omega) k, h.out.keep (by omega) k, h.g.other fun y hy hl => k.block y (by omega) hl, h.bl, h.sm⟩
theorem DdW.below (h : DdW W bc ac len cap w v rs l x) (g : Below x.heap.size x x') : DdW W bc ac len cap w v rs l x' :=
  ⟨h.cur.below h.cur.lt g, ⟨Nat.le_trans h.kp.size g.size, fun k k1 k2 => (g.block k (Nat.lt_of_lt_of_le k2 h.kp.size)).trans (h.kp.block k k1 k2)⟩, h.res.below h.res.under g, h.out.below h.out.under g, h.g.below g, h.bl, h.sm⟩
/-- What lies from H on is turned. -/
theorem DdW.high (h : DdW W bc ac len cap w v rs l x) (hH : w.heap.size + 2 ≤ H) (lo : ∀ i k, i < l.length → (hsrAt rs i).hd.ownBlock = some k → k < H) (lo' : ∀ k, v.ownBlock = some k → k < H) (g : Below H x x') : DdW W bc ac len cap w v rs l x' := by
  have h2 := h.bl
  have h3 := h.kp.size
  refine ⟨h.cur.below (by omega) g, ⟨Nat.le_trans h3 g.size, fun k k1 k2 => (g.block k (by omega)).trans (h.kp.block k k1 k2)⟩, h.res.below (by omega) g, h.out.below (by omega) g, ?_, h.bl, h.sm⟩
  exact ⟨hsrows_carry h.g.outer fun k hk _ => g.block k (lo' k hk), h.g.len, h.g.num, fun i hi => hsrows_carry (h.g.row i hi) fun k hk _ => g.block k (lo i k hi hk), h.g.apart⟩
theorem DdI.draw (h : DdI W bc ac len cap w v rs l H u fl x) (c : Cur W bc ac len cap x') (k : Keep bc x x') : DdI W bc ac len cap w v rs l H u fl x' := by
  have h2 := h.d.bl
  have h3 := h.hH
  exact ⟨h.d.draw c k, h.hb.imp fun t hb => hb.keep (by omega) k, h.r.carry fun y hy hl => k.block y (by omega) hl, h.hH, h.lo, h.lo'⟩
theorem DdI.below (h : DdI W bc ac len cap w v rs l H u fl x) (g : Below x.heap.size x x') : DdI W bc ac len cap w v rs l H u fl x' :=
  ⟨h.d.below g, h.hb.imp fun _ hb => hb.below hb.under g, h.r.carry fun y _ hl => g.block y hl, h.hH, h.lo, h.lo'⟩
/-- A host begun. -/
theorem DdI.first (h : DdW W bc ac len cap w v rs l x) : DdI W bc ac len cap w v rs l x.heap.size (.slice none 0 0) [] (x.alloc (.cells #[.int .i64 0, .slice none 0 0] 35)) := by
  have hs := h.out.under
  exact ⟨h.below ((Below.refl _ _).alloc (Nat.le_refl _) _), ⟨0, Boxed.new _ _ _⟩, World.ownsRow_nil _ _ _ 1, by omega, fun i k hi hk => ((h.g.row i hi).lt k hk).2, fun k hk => (World.ownsRow.lt h.g.outer k hk).2⟩
/-- One flow more. -/
theorem DdI.add {y : Int} {u' : Value} (h : DdI W bc ac len cap w v rs l H u fl x) (hr : IRow (H + 1) x' u' (fl ++ [y])) (g : Below (H + 1) x x') : DdI W bc ac len cap w v rs l H u' (fl ++ [y]) (x'.setCell ⟨H, 1, none⟩ u') := by
  have h3 := h.hH
  have bel : Below H x (x'.setCell ⟨H, 1, none⟩ u') := (g.mono (by omega)).setCell (by show H ≤ H; omega) _
  obtain ⟨t, hb⟩ := h.hb
  refine ⟨h.d.high h3 h.lo h.lo' bel, ⟨t, (hb.below (by omega) g).put 1 u'⟩, hr.carry fun k hk _ => Below.heap_setCell _ _ _ _ (by show k ≠ H; omega), h.hH, h.lo, h.lo'⟩
/-- Its turn. -/
theorem DdI.turn {z : Int} (h : DdI W bc ac len cap w v rs l H u fl x) : DdI W bc ac len cap w v rs l H u fl (x.setCell ⟨H, 0, none⟩ (.int .i64 z)) ∧ Boxed (x.setCell ⟨H, 0, none⟩ (.int .i64 z)) H #[.int .i64 z, u] 35 := by
  have h3 := h.hH
  have bel : Below H x (x.setCell ⟨H, 0, none⟩ (.int .i64 z)) := (Below.refl _ _).setCell (by show H ≤ H; omega) _
  obtain ⟨t, hb⟩ := h.hb
  exact ⟨⟨h.d.high h3 h.lo h.lo' bel, ⟨z, hb.put 0 _⟩, h.r.carry fun k hk _ => Below.heap_setCell _ _ _ _ (by show k ≠ H; omega), h.hH, h.lo, h.lo'⟩, hb.put 0 _⟩
/-- A host done. -/
theorem DdI.done {z : Int} {v' : Value} (h : DdI W bc ac len cap w v rs l H u fl x) (hl : 1 ≤ fl.length ∧ fl.length ≤ 9) (ho : x'.ownsRow (w.heap.size + 2) 35 2 v' (l.length + 1) (hscells (rs ++ [⟨z, u⟩]))) (gb : Below (w.heap.size + 2) x x') (g2 : ∀ k, v.ownBlock ≠ some k → k < x.heap.size → x'.heap[k]? = x.heap[k]?) :
    DdW W bc ac len cap w v' (rs ++ [⟨z, u⟩]) (l ++ [⟨z, fl⟩]) (x'.setCell ⟨w.heap.size + 1, 1, none⟩ v') := by
  have h3 := h.hH
  have h2 := h.d.bl
  have h4 := h.d.kp.size
  have hg : HsG (w.heap.size + 2) v' (rs ++ [⟨z, u⟩]) (l ++ [⟨z, fl⟩]) x' := h.d.g.add2 (r := ⟨z, fl⟩) (H := H) h3 h.lo h.lo' (h.r.mono (by omega)) ho g2
  have oth : ∀ y, y ≠ w.heap.size + 1 → (x'.setCell ⟨w.heap.size + 1, 1, none⟩ v').heap[y]? = x'.heap[y]? := fun y hy => Below.heap_setCell _ _ _ _ hy
  have bel : Below (w.heap.size + 1) x (x'.setCell ⟨w.heap.size + 1, 1, none⟩ v') := (gb.mono (by omega)).setCell (by show w.heap.size + 1 ≤ w.heap.size + 1; omega) _
  refine ⟨h.d.cur.below (by omega) bel, ⟨Nat.le_trans h4 bel.size, fun k k1 k2 => (bel.block k (by omega)).trans (h.d.kp.block k k1 k2)⟩, h.d.res.below (by omega) bel, (h.d.out.below (by omega) gb).put 1 v', hg.other fun y hy _ => oth y (by omega), h.d.bl, fun k hk => ?_⟩
  rw [List.length_append, List.length_singleton] at hk
  by_cases e : k = l.length
  · subst e; rw [hsAt_new]; exact hl
  · rw [hsAt_old (by omega)]; exact h.d.sm k (by omega)
/-- All hosts done. -/
theorem DdW.end (h : DdW W bc ac len cap w v rs l x) (hl : 1 ≤ l.length ∧ l.length ≤ 4) : ∃ b q, v = .slice (some ⟨b, 0, none⟩) l.length q ∧ DdV W bc ac len cap w 0 b l.length q x.heap.size rs l x := by
  rcases h.g.outer.2 with ⟨e, e0⟩ | ⟨b, q, cu, e, _⟩
  · omega
  · refine ⟨b, q, e, ?_⟩
    have h1 := h.out
    have h2 := h.g.done
    rw [e] at h1 h2
    exact ⟨h.cur, h.kp, h.res, h1, h2, Nat.le_refl _, rfl, h.bl, hl.1, hl.2, fun k hk => (h.sm k hk).2⟩
theorem DdV.draw (h : DdV W bc ac len cap w f b n q t rs l x) (c : Cur W bc ac len cap x') (k : Keep bc x x') : DdV W bc ac len cap w f b n q t rs l x' := by
  have h2 := h.bl
  have h3 := h.up
  exact ⟨c, h.kp.trans k, h.res.keep (by omega) k, h.out.keep (by omega) k, h.mem.keep k.size fun y y1 y2 => k.block y (by omega) (by omega), Nat.le_trans h3 k.size, h.hn, h.bl, h.n0, h.n4, h.sm⟩
theorem DdV.below (h : DdV W bc ac len cap w f b n q t rs l x) (g : Below x.heap.size x x') : DdV W bc ac len cap w f b n q t rs l x' :=
  ⟨h.cur.below h.cur.lt g, ⟨Nat.le_trans h.kp.size g.size, fun k k1 k2 => (g.block k (Nat.lt_of_lt_of_le k2 h.kp.size)).trans (h.kp.block k k1 k2)⟩, h.res.below h.res.under g, h.out.below h.out.under g, h.mem.below g, Nat.le_trans h.up g.size, h.hn, h.bl, h.n0, h.n4, h.sm⟩
/-- The deal's turn. -/
theorem DdV.turn {z : Int} (h : DdV W bc ac len cap w f b n q t rs l x) : DdV W bc ac len cap w z b n q t rs l (x.setCell ⟨w.heap.size + 1, 0, none⟩ (.int .i64 z)) := by
  have h2 := h.bl
  have h3 := h.kp.size
  have bel : Below (w.heap.size + 1) x (x.setCell ⟨w.heap.size + 1, 0, none⟩ (.int .i64 z)) := (Below.refl _ _).setCell (by show w.heap.size + 1 ≤ w.heap.size + 1; omega) _
  exact ⟨h.cur.below (by omega) bel, ⟨Nat.le_trans h3 bel.size, fun k k1 k2 => (bel.block k (by omega)).trans (h.kp.block k k1 k2)⟩, h.res.below (by omega) bel, h.out.put 0 _, h.mem.keep bel.size fun k k1 k2 => Below.heap_setCell _ _ _ _ (by show k ≠ w.heap.size + 1; omega), Nat.le_trans h.up bel.size, h.hn, h.bl, h.n0, h.n4, h.sm⟩
/-- Anything turned from the hosts' blocks on. -/
theorem DdV.other {t' : Nat} {rs' : List Hsr} {l' : List Hs} (h : DdV W bc ac len cap w f b n q t rs l x) (g : Below (w.heap.size + 2) x x') (m : HsV (w.heap.size + 2) t' x' (.slice (some ⟨b, 0, none⟩) n q) rs' l') (up : t' ≤ x'.heap.size) (hn : l'.length = n) (sm : ∀ k, k < l'.length → (hsAt l' k).flows.length ≤ 9) : DdV W bc ac len cap w f b n q t' rs' l' x' := by
  have h2 := h.bl
  have h3 := h.kp.size
  exact ⟨h.cur.below (by omega) g, ⟨Nat.le_trans h3 g.size, fun k k1 k2 => (g.block k (by omega)).trans (h.kp.block k k1 k2)⟩, h.res.below (by omega) g, h.out.below (by omega) g, m, up, hn, h.bl, h.n0, h.n4, sm⟩
theorem DdV.at_b (h : DdV W bc ac len cap w f b n q t rs l x) : w.heap.size + 2 ≤ b ∧ b < t := by
  have hcl := hscells_length rs
  have hl := h.mem.len
  have h0 := h.n0
  have h1 := h.hn
  exact h.mem.outer.in (k := b) (o := 0) ⟨0, _, q, rfl, Nat.le_refl _, by omega⟩
/-- The answer's variable filled. -/
theorem DdV.fin (h : DdV W bc ac len cap w f b n q t rs l x) : (DlIn w.heap.size (x.setRow w.heap.size #[.int .i64 f, .slice (some ⟨b, 0, none⟩) n q]).heap.size (x.setRow w.heap.size #[.int .i64 f, .slice (some ⟨b, 0, none⟩) n q]) (.agg #[.int .i64 f, .slice (some ⟨b, 0, none⟩) n q]) ⟨f, l⟩ ∧ Dl.big ⟨f, l⟩ ≤ 100) ∧ Cur W bc ac len cap (x.setRow w.heap.size #[.int .i64 f, .slice (some ⟨b, 0, none⟩) n q]) ∧ Keep bc w (x.setRow w.heap.size #[.int .i64 f, .slice (some ⟨b, 0, none⟩) n q]) := by
  have g2 := h.bl
  have g3 := h.cur.lo
  have g4 := h.up
  have o : ∀ k, k ≠ w.heap.size → (x.setRow w.heap.size #[.int .i64 f, .slice (some ⟨b, 0, none⟩) n q]).heap[k]? = x.heap[k]? := fun k hk => setRow_other _ _ _ _ hk
  have sz : (x.setRow w.heap.size #[.int .i64 f, .slice (some ⟨b, 0, none⟩) n q]).heap.size = x.heap.size := by simp [World.setRow]
  refine ⟨⟨⟨some ⟨b, 0, none⟩, q, by unfold Dl.val; simp [h.hn], rs, ?_⟩, ?_⟩, h.cur.other (B := w.heap.size) (by omega) o (below_setRow (Below.refl _ _) (by omega) _), ⟨by rw [sz]; exact h.kp.size, fun k q1 q2 => (o k (by omega)).trans (h.kp.block k q1 q2)⟩⟩
  · show HsV _ _ _ (.slice (some ⟨b, 0, none⟩) l.length q) rs l
    rw [h.hn]
    exact (h.mem.keep (by rw [sz]; exact Nat.le_refl _) fun k k1 k2 => o k (by omega)).wide (by omega) (by rw [sz]; exact g4) (Nat.le_refl _)
  · have hb : ∀ i, i ≤ l.length → hsSum l i ≤ 9 * i := by
      intro i
      induction i with
      | zero => intro _; rw [hsSum_zero]; omega
      | succ i ih =>
        intro hi
        rw [hsSum_succ (by omega)]
        have := ih (by omega)
        have := h.sm i (by omega)
        omega
    have h1 := hb l.length (Nat.le_refl _)
    have h2 := h.hn
    have h3 := h.n4
    unfold Dl.big
    simp only
    omega
end
end Go.Proofs.Ytojmghnbekneiaa

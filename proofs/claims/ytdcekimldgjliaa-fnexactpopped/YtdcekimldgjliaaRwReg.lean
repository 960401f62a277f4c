/-
  What is known while a region draws its order, calls and fills the variables of rows and of an item. By the verifier.
-/
import Derived.Test.YtdcekimldgjliaaRegGhost
import Derived.Test.YtdcekimldgjliaaRwPlain
import Derived.Test.YtdcekimldgjliaaBoxed
import Derived.Laws.Rows
import Derived.Laws.Tables
namespace Go.Proofs.Ytdcekimldgjliaa
open Go.RowKit

/-- What holds all the while: what lay lies; the variables laid so far. -/
structure GI (W : World) (y : Nat × Nat) (x : World) : Prop where
  bel : Below W.heap.size W x
  l1 : y.1 < x.heap.size
  l2 : y.2 < x.heap.size
  c1 : y.1 = 0 ∨ (W.heap.size ≤ y.1 ∧ ∃ z0 z1, Boxed x y.1 #[z0, z1] 29)
  c2 : y.2 = 0 ∨ (W.heap.size ≤ y.2 ∧ ∃ z0 z1 z2, Boxed x y.2 #[z0, z1, z2] 37)
/-- What an operation of kind k does: 1 and 2 lay a variable, 3 and 4 fill it, all others leave what lay. -/
structure RK (k : Nat) (y : Nat × Nat) (x : World) (y' : Nat × Nat) (x' : World) : Prop where
  same1 : k ≠ 1 → y'.1 = y.1
  same2 : k ≠ 2 → y'.2 = y.2
  new1 : k = 1 → y'.1 = x.heap.size
  new2 : k = 2 → y'.2 = x.heap.size
  size : x.heap.size ≤ x'.heap.size
  block : ∀ b, b < x.heap.size → (k = 3 → b ≠ y.1) → (k = 4 → b ≠ y.2) → x'.heap[b]? = x.heap[b]?
  bel : k ≠ 3 → k ≠ 4 → Below x.heap.size x x'
  at3 : k = 3 → ∃ cs, Boxed x y.1 cs 29
  at4 : k = 4 → ∃ cs, Boxed x y.2 cs 37
theorem RK.quiet {k : Nat} (h1 : k ≠ 1) (h2 : k ≠ 2) (h3 : k ≠ 3) (h4 : k ≠ 4) {y : Nat × Nat} {x x' : World} (g : Below x.heap.size x x') : RK k y x y x' :=
  ⟨fun _ => rfl, fun _ => rfl, fun e => absurd e h1, fun e => absurd e h2, g.size, fun b hb _ _ => g.block b hb, fun _ _ => g, fun e => absurd e h3, fun e => absurd e h4⟩
theorem RK.stay {k : Nat} (h1 : k ≠ 1) (h2 : k ≠ 2) (h3 : k ≠ 3) (h4 : k ≠ 4) (y : Nat × Nat) (x : World) : RK k y x y x := RK.quiet h1 h2 h3 h4 (Below.refl _ _)
theorem GI.quiet {W x x' : World} {y : Nat × Nat} (h : GI W y x) (g : Below x.heap.size x x') : GI W y x' := by
  refine ⟨h.bel.trans (g.mono h.bel.size), Nat.lt_of_lt_of_le h.l1 g.size, Nat.lt_of_lt_of_le h.l2 g.size, h.c1.imp id ?_, h.c2.imp id ?_⟩
  · rintro ⟨q, z0, z1, b⟩; exact ⟨q, z0, z1, b.below b.under g⟩
  · rintro ⟨q, z0, z1, z2, b⟩; exact ⟨q, z0, z1, z2, b.below b.under g⟩
theorem RK.alloc1 (y : Nat × Nat) (x : World) (o : Obj) : RK 1 y x (x.heap.size, y.2) (x.alloc o) :=
  ⟨fun e => absurd rfl e, fun _ => rfl, fun _ => rfl, (fun e => by cases e), by simp, fun b hb _ _ => Below.heap_alloc _ _ _ hb, fun _ _ => (Below.refl _ _).alloc (Nat.le_refl _) _, (fun e => by cases e), (fun e => by cases e)⟩
theorem RK.alloc2 (y : Nat × Nat) (x : World) (o : Obj) : RK 2 y x (y.1, x.heap.size) (x.alloc o) :=
  ⟨fun _ => rfl, fun e => absurd rfl e, (fun e => by cases e), fun _ => rfl, by simp, fun b hb _ _ => Below.heap_alloc _ _ _ hb, fun _ _ => (Below.refl _ _).alloc (Nat.le_refl _) _, (fun e => by cases e), (fun e => by cases e)⟩
theorem GI.alloc1 {W x : World} {y : Nat × Nat} (h : GI W y x) (z0 z1 : Value) : GI W (x.heap.size, y.2) (x.alloc (.cells #[z0, z1] 29)) := by
  have q := h.quiet ((Below.refl _ _).alloc (Nat.le_refl _) (.cells #[z0, z1] 29))
  exact ⟨q.bel, by simp, q.l2, .inr ⟨h.bel.size, z0, z1, Boxed.new _ _ _⟩, q.c2⟩
theorem GI.alloc2 {W x : World} {y : Nat × Nat} (h : GI W y x) (z0 z1 z2 : Value) : GI W (y.1, x.heap.size) (x.alloc (.cells #[z0, z1, z2] 37)) := by
  have q := h.quiet ((Below.refl _ _).alloc (Nat.le_refl _) (.cells #[z0, z1, z2] 37))
  exact ⟨q.bel, q.l1, by simp, q.c1, .inr ⟨h.bel.size, z0, z1, z2, Boxed.new _ _ _⟩⟩
theorem rw_it_ne {x : World} {b : Nat} {cs ds : Array Value} (h1 : Boxed x b cs 29) (h2 : Boxed x b ds 37) : False := by
  unfold Boxed at h1 h2
  rw [h1] at h2
  simp only [Option.some.injEq, Obj.cells.injEq] at h2
  exact absurd h2.2.1 (by decide)
theorem RK.store1 {y : Nat × Nat} {x : World} {old : Array Value} (h : Boxed x y.1 old 29) (cs : Array Value) : RK 3 y x y (x.setRow y.1 cs) :=
  ⟨fun _ => rfl, fun _ => rfl, (fun e => by cases e), (fun e => by cases e), by simp [World.setRow], fun b _ hb _ => setRow_other _ _ _ _ (hb rfl), fun e => absurd rfl e, fun _ => ⟨_, h⟩, (fun e => by cases e)⟩
theorem RK.store2 {y : Nat × Nat} {x : World} {old : Array Value} (h : Boxed x y.2 old 37) (cs : Array Value) : RK 4 y x y (x.setRow y.2 cs) :=
  ⟨fun _ => rfl, fun _ => rfl, (fun e => by cases e), (fun e => by cases e), by simp [World.setRow], fun b _ _ hb => setRow_other _ _ _ _ (hb rfl), fun _ e => absurd rfl e, (fun e => by cases e), fun _ => ⟨_, h⟩⟩
theorem bel_row {n g : Nat} {W x : World} (h : Below n W x) (hg : n ≤ g) (cs : Array Value) : Below n W (x.setRow g cs) :=
  h.trans ⟨rfl, rfl, rfl, by simp [World.setRow], fun k hk => setRow_other x g k cs (by omega)⟩
theorem GI.store1 {W x : World} {y : Nat × Nat} (h : GI W y x) (hs : W.heap.size ≤ y.1) (z0 z1 : Value) : GI W y (x.setRow y.1 #[z0, z1]) ∨ y.1 = 0 := by
  rcases h.c1 with h0 | ⟨_, o0, o1, b⟩
  · exact .inr h0
  refine .inl ⟨bel_row h.bel hs _, by simpa [World.setRow] using h.l1, by simpa [World.setRow] using h.l2, .inr ⟨hs, z0, z1, setRow_heap _ _ _ _ _ _ b⟩, h.c2.imp id ?_⟩
  rintro ⟨q, u0, u1, u2, c⟩
  refine ⟨q, u0, u1, u2, ?_⟩
  unfold Boxed
  rw [setRow_other _ _ _ _ (fun e => rw_it_ne b (by rw [← e]; exact c))]
  exact c
theorem GI.store2 {W x : World} {y : Nat × Nat} (h : GI W y x) (hs : W.heap.size ≤ y.2) (z0 z1 z2 : Value) : GI W y (x.setRow y.2 #[z0, z1, z2]) ∨ y.2 = 0 := by
  rcases h.c2 with h0 | ⟨_, o0, o1, o2, b⟩
  · exact .inr h0
  refine .inl ⟨bel_row h.bel hs _, by simpa [World.setRow] using h.l1, by simpa [World.setRow] using h.l2, h.c1.imp id ?_, .inr ⟨hs, z0, z1, z2, setRow_heap _ _ _ _ _ _ b⟩⟩
  rintro ⟨q, u0, u1, c⟩
  refine ⟨q, u0, u1, ?_⟩
  unfold Boxed
  rw [setRow_other _ _ _ _ (fun e => rw_it_ne (by rw [← e]; exact c) b)]
  exact c

/-- Memory of the region's own that no variable lies in. -/
structure Mem (W : World) (b t : Nat) (y : Nat × Nat) (x : World) (v : Value) (X : Rw) : Prop where
  mem : RwIn b t x v X
  sb : W.heap.size ≤ b
  lo : b ≤ t
  up : t ≤ x.heap.size
  o1 : y.1 < b ∨ t ≤ y.1
  o2 : y.2 < b ∨ t ≤ y.2
theorem Mem.keep {W x x' : World} {b t k : Nat} {y y' : Nat × Nat} {v : Value} {X : Rw} (h : Mem W b t y x v X) (r : RK k y x y' x') : Mem W b t y' x' v X := by
  have u := h.up
  have e1 := h.o1
  have e2 := h.o2
  refine ⟨h.mem.keep r.size fun c c1 c2 => r.block c (by omega) (fun _ => by omega) (fun _ => by omega), h.sb, h.lo, Nat.le_trans h.up r.size, ?_, ?_⟩
  · by_cases hk : k = 1
    · rw [r.new1 hk]; omega
    · rw [r.same1 hk]; exact h.o1
  · by_cases hk : k = 2
    · rw [r.new2 hk]; omega
    · rw [r.same2 hk]; exact h.o2
theorem Mem.made {W x x' : World} {y : Nat × Nat} {v : Value} {X : Rw} (h : RwIn x.heap.size x'.heap.size x' v X) (g : GI W y x) (q : Below x.heap.size x x') : Mem W x.heap.size x'.heap.size y x' v X :=
  ⟨h, g.bel.size, q.size, Nat.le_refl _, .inl g.l1, .inl g.l2⟩
/-- The first variable holds X. -/
structure Hold (W : World) (b t : Nat) (y : Nat × Nat) (x : World) (cs : Array Value) (X : Rw) : Prop where
  box : Boxed x y.1 cs 29
  mem : Mem W b t y x (.agg cs) X
  s1 : W.heap.size ≤ y.1
theorem Hold.keep {W x x' : World} {b t k : Nat} {y y' : Nat × Nat} {cs : Array Value} {X : Rw} (h : Hold W b t y x cs X) (r : RK k y x y' x') (h1 : k ≠ 1) (h3 : k ≠ 3) : Hold W b t y' x' cs X := by
  refine ⟨?_, h.mem.keep r, by rw [r.same1 h1]; exact h.s1⟩
  unfold Boxed
  rw [r.same1 h1, r.block _ h.box.under (fun e => absurd e h3) (fun e => by
    obtain ⟨ds, hd⟩ := r.at4 e
    intro e2
    exact rw_it_ne h.box (by rw [e2]; exact hd))]
  exact h.box
/-- The second variable holds an item. -/
structure HoldI (W : World) (y : Nat × Nat) (x : World) (cs : Array Value) : Prop where
  box : Boxed x y.2 cs 37
  s2 : W.heap.size ≤ y.2
theorem HoldI.keep {W x x' : World} {k : Nat} {y y' : Nat × Nat} {cs : Array Value} (h : HoldI W y x cs) (r : RK k y x y' x') (h2 : k ≠ 2) (h4 : k ≠ 4) : HoldI W y' x' cs := by
  refine ⟨?_, by rw [r.same2 h2]; exact h.s2⟩
  unfold Boxed
  rw [r.same2 h2, r.block _ h.box.under (fun e => by
    obtain ⟨ds, hd⟩ := r.at3 e
    intro e2
    exact rw_it_ne (by rw [e2]; exact hd) h.box) (fun e => absurd e h4)]
  exact h.box
/-- Rows that may be read. -/
theorem at_keep {x x' : World} {k : Nat} {y y' : Nat × Nat} {v : Value} {r : Rw} (h : RwAt x v r) (q : RK k y x y' x') (h3 : k ≠ 3) (h4 : k ≠ 4) : RwAt x' v r := h.below (q.bel h3 h4)

theorem op_alloc_row {P : Program} {o : Oper} {a : Act} {w : World} {K : Act → World → Prop} {Q : Exit → Act → World → Prop} {t : TypeId} {z : Value} (ho : o.op = .alloc t) (hz : (P.info? t).map (·.zero) = some (some z)) (h : K (a.put o.dst (.pointer (some ⟨w.heap.size, 0, none⟩))) (w.alloc (.cells z.cells t))) : o.wp P a w K Q := by
  obtain ⟨i, hi, hz⟩ := Option.map_eq_some_iff.1 hz
  unfold Oper.wp
  simp [go_sem, ho, hi, hz, zeroValue, typeInfo]
  exact h
theorem op_assign {P : Program} {o : Oper} {a : Act} {w : World} {K : Act → World → Prop} {Q : Exit → Act → World → Prop} (t : Tmp) (ho : o.op = .assign (.tmp t)) (h : K (a.put o.dst (a.tmps.getD t undef)) w) : o.wp P a w K Q := by
  unfold Oper.wp
  simp [execOp, ho, Act.eval, Oper.upon]
  simpa using h
theorem op_extract {P : Program} {o : Oper} {a : Act} {w : World} {K : Act → World → Prop} {Q : Exit → Act → World → Prop} (t : Tmp) (k : Nat) (ho : o.op = .extract (.tmp t) k) (vs : Array Value) (hv : a.tmps.getD t undef = .tuple vs) (x : Value) (hx : vs[k]? = some x) (h : K (a.put o.dst x) w) : o.wp P a w K Q := by
  have hv' : a.tmps[t]?.getD undef = .tuple vs := by simpa using hv
  unfold Oper.wp
  simp [go_sem, ho, hv', hx]
  exact h
end Go.Proofs.Ytdcekimldgjliaa

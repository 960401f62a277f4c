/-
  Variables that hold flows, as one fact. By the verifier.
-/
import Derived.Test.YtllmkolchgmjoaaM1FsFn
import Derived.Test.YtllmkolchgmjoaaBoxed
import Derived.Test.YtllmkolchgmjoaaStepRow
import Derived.Laws.CopyOwn
import Derived.Laws.ResultCell
namespace Go.Proofs.Ytllmkolchgmjoaa
open Go.RowKit

/-- A variable at g, its cells, the flows they hold, in blocks from b up to t. -/
structure Fv where
  g : Nat
  cs : Array Value
  d : Fs
  b : Nat
  t : Nat
/-- Such variables, and all that lay lies. -/
structure Fvs (L : List Fv) (w x : World) : Prop where
  bel : Below w.heap.size w x
  box : ∀ e, e ∈ L → Boxed x e.g e.cs 26 ∧ FsIn e.b e.t x (.agg e.cs) e.d ∧ e.t ≤ x.heap.size
section
variable {L : List Fv} {w x x' : World} {g b t b' t' : Nat} {cs cs' : Array Value} {d d' : Fs}
theorem Fvs.below (h : Fvs L w x) (q : Below x.heap.size x x') : Fvs L w x' :=
  ⟨h.bel.trans (q.mono h.bel.size), fun e he => ⟨(h.box e he).1.below (h.box e he).1.under q, (h.box e he).2.1.below q, Nat.le_trans (h.box e he).2.2 q.size⟩⟩
theorem Fvs.at (h : Fvs L w x) (k : Nat) (e : L[k]? = some ⟨g, cs, d, b, t⟩) : Boxed x g cs 26 := (h.box _ (List.mem_of_getElem? e)).1
theorem Fvs.mem (h : Fvs L w x) (k : Nat) (e : L[k]? = some ⟨g, cs, d, b, t⟩) : FsIn b t x (.agg cs) d := (h.box _ (List.mem_of_getElem? e)).2.1
theorem Fvs.top (h : Fvs L w x) (k : Nat) (e : L[k]? = some ⟨g, cs, d, b, t⟩) : t ≤ x.heap.size := (h.box _ (List.mem_of_getElem? e)).2.2
theorem Fvs.is (h : Fvs L w x) (k : Nat) (e : L[k]? = some ⟨g, cs, d, b, t⟩) : Hid (FsAt x (.agg cs) d) := (h.mem k e).at
theorem Fvs.store (h : Fvs L w x) (zs : Array Value) (m : FsIn b t x (.agg cs) d) (ht : t ≤ x.heap.size) : Fvs (⟨x.heap.size, cs, d, b, t⟩ :: L) w ((x.alloc (.cells zs 26)).setRow x.heap.size cs) := by
  have q : Below x.heap.size x ((x.alloc (.cells zs 26)).setRow x.heap.size cs) := below_setRow ((Below.refl _ _).alloc (Nat.le_refl _) _) (Nat.le_refl _) _
  have h2 := h.below q
  refine ⟨h2.bel, fun e he => ?_⟩
  rcases List.mem_cons.1 he with rfl | he
  · exact ⟨setRow_heap _ _ _ _ _ _ (Boxed.new x zs 26), m.below q, Nat.le_trans ht q.size⟩
  · exact h2.box e he
theorem Fvs.put (h : Fvs (⟨g, cs, d, b, t⟩ :: L) w x) (hg : w.heap.size ≤ g) (ne : ∀ e, e ∈ L → e.g ≠ g ∧ (e.t ≤ g ∨ g < e.b)) (m : FsIn b' t' x (.agg cs') d') (hb : t' ≤ g ∨ g < b') (ht : t' ≤ x.heap.size) : Fvs (⟨g, cs', d', b', t'⟩ :: L) w (x.setRow g cs') := by
  have o : ∀ k, k ≠ g → (x.setRow g cs').heap[k]? = x.heap[k]? := fun k hk => setRow_other _ _ _ _ hk
  have sz : (x.setRow g cs').heap.size = x.heap.size := by simp [World.setRow]
  refine ⟨below_setRow h.bel hg _, fun e he => ?_⟩
  rcases List.mem_cons.1 he with rfl | he
  · exact ⟨setRow_heap _ _ _ _ _ _ (h.at 0 rfl), m.keep (by rw [sz]; exact Nat.le_refl _) fun k k1 k2 => o k (by omega), by rw [sz]; exact ht⟩
  · have h2 := h.box e (List.mem_cons_of_mem _ he)
    have h3 := ne e he
    refine ⟨(o e.g h3.1).trans h2.1, h2.2.1.keep (by rw [sz]; exact Nat.le_refl _) fun k k1 k2 => o k ?_, by rw [sz]; exact h2.2.2⟩
    rcases h3.2 with q | q <;> omega
theorem Fvs.sub {M : List Fv} (h : Fvs L w x) (hs : ∀ e, e ∈ M → e ∈ L) : Fvs M w x := ⟨h.bel, fun e he => h.box e (hs e he)⟩
end
/-- Other flows laid into a variable. -/
theorem Fvs.lay {L : List Fv} {w x : World} {g b' t' : Nat} {cs cs' : Array Value} {d' : Fs} (h : Fvs L w x) (hbx : Boxed x g cs 26) (hg : w.heap.size ≤ g) (ne : ∀ e, e ∈ L → e.g ≠ g ∧ (e.t ≤ g ∨ g < e.b)) (m : FsIn b' t' x (.agg cs') d') (hb : t' ≤ g ∨ g < b') (ht : t' ≤ x.heap.size) : Fvs (⟨g, cs', d', b', t'⟩ :: L) w (x.setRow g cs') := by
  have o : ∀ k, k ≠ g → (x.setRow g cs').heap[k]? = x.heap[k]? := fun k hk => setRow_other _ _ _ _ hk
  have sz : (x.setRow g cs').heap.size = x.heap.size := by simp [World.setRow]
  refine ⟨below_setRow h.bel hg _, fun e he => ?_⟩
  rcases List.mem_cons.1 he with rfl | he
  · exact ⟨setRow_heap _ _ _ _ _ _ hbx, m.keep (by rw [sz]; exact Nat.le_refl _) fun k k1 k2 => o k (by omega), by rw [sz]; exact ht⟩
  · have h2 := h.box e he
    have h3 := ne e he
    refine ⟨(o e.g h3.1).trans h2.1, h2.2.1.keep (by rw [sz]; exact Nat.le_refl _) fun k k1 k2 => o k ?_, by rw [sz]; exact h2.2.2⟩
    rcases h3.2 with q | q <;> omega
/-- Blocks that none of them has are turned. -/
theorem Fvs.other {L : List Fv} {w x x' : World} {P : Nat → Prop} (h : Fvs L w x) (bel : Below w.heap.size w x') (hs : x.heap.size ≤ x'.heap.size) (o : ∀ k, P k → k < x.heap.size → x'.heap[k]? = x.heap[k]?) (ne : ∀ e, e ∈ L → P e.g ∧ ∀ k, e.b ≤ k → k < e.t → P k) : Fvs L w x' := by
  refine ⟨bel, fun e he => ?_⟩
  have h2 := h.box e he
  have h3 := ne e he
  exact ⟨(o e.g h3.1 h2.1.under).trans h2.1, h2.2.1.keep hs fun k k1 k2 => o k (h3.2 k k1 k2) (by have := h2.2.2; omega), Nat.le_trans h2.2.2 hs⟩
/-- A list of numbers lies in no variable that is flows. -/
theorem irow_offF {base g : Nat} {x : World} {v : Value} {l : List Int} {cs : Array Value} (h : IRow base x v l) (hb : Boxed x g cs 26) : v.ownBlock ≠ some g := by
  intro hk
  rcases h.2 with ⟨e, _⟩ | ⟨g', cap, cur, e, _, hg, _⟩
  · rw [e] at hk; cases hk
  · rw [e] at hk
    cases hk
    have h1 := hb
    unfold Boxed at h1
    simp only at h1
    rw [h1] at hg
    simp only [Option.some.injEq, Obj.cells.injEq] at hg
    exact absurd hg.2.1 (by decide)
theorem irow_putF {base g : Nat} {x : World} {v : Value} {l : List Int} {cs cs' : Array Value} (h : IRow base x v l) (hb : Boxed x g cs 26) : IRow base (x.setRow g cs') v l := by
  have ho := irow_offF h hb
  refine ⟨h.1, h.2.imp id ?_⟩
  rintro ⟨g0, cap, cur, h1, h2, h3, h4⟩
  exact ⟨g0, cap, cur, h1, h2, by rw [setRow_other _ _ _ _ (fun e => ho (by rw [h1, ← e]; rfl))]; exact h3, h4⟩
theorem FsIn.cells' {b t : Nat} {W : World} {v : Value} {x : Fs} (h : FsIn b t W v x) : ∃ p q, v = .agg #[.int .i64 x.now, .slice p x.flows.length q] := by
  obtain ⟨p, q, e, _⟩ := h
  exact ⟨p, q, e⟩
theorem hid_fvs {L : List Fv} {w x : World} (h : Hid (Fvs L w x)) : Hid (Below w.heap.size w x) := h.out.bel
end Go.Proofs.Ytllmkolchgmjoaa

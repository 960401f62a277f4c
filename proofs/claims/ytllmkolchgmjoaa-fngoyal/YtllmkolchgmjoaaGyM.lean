/-
  What lies while FnGoyal serves its flows: the variable, the flows, the list of the most, the sums; what is known of the sums. By the verifier.
-/
import Derived.Test.YtllmkolchgmjoaaGyB
import Derived.Test.YtllmkolchgmjoaaIntMk
import Derived.Test.YtllmkolchgmjoaaStepRow
import Derived.Laws.CopyOwn
namespace Go.Proofs.Ytllmkolchgmjoaa
open Go.RowKit

structure GyM (w : World) (gq S K : Nat) (mv : Value) (ms ss : List Int) (D : Fs) (b t : Nat) (p : Option Addr) (c : Nat) (x : World) : Prop where
  bel : Below w.heap.size w x
  q : Boxed x gq #[.int .i64 D.now, .slice p K c] 26
  d : FsIn b t x (.agg #[.int .i64 D.now, .slice p K c]) D
  m : IRow (gq + 1) x mv ms
  ml : ∀ k, mv.ownBlock = some k → k < S
  s : IRow S x (.slice (some ⟨S, 0, none⟩) K K) ss
  sl : ss.length = K
  kl : D.flows.length = K
  lo : w.heap.size ≤ gq
  gs : gq < S
  gb : gq < b
  sd : S < b ∨ t ≤ S
  tt : t ≤ x.heap.size
section
variable {w : World} {gq S K b t b' t' c c' : Nat} {mv : Value} {ms ss : List Int} {D D' : Fs} {p p' : Option Addr} {x x' : World}
theorem GyM.below (h : GyM w gq S K mv ms ss D b t p c x) (g : Below x.heap.size x x') : GyM w gq S K mv ms ss D b t p c x' :=
  ⟨h.bel.trans (g.mono h.bel.size), h.q.below h.q.under g, h.d.below g, h.m.carry fun k _ hl => g.block k hl, h.ml, h.s.carry fun k _ hl => g.block k hl, h.sl, h.kl, h.lo, h.gs, h.gb, h.sd, Nat.le_trans h.tt g.size⟩
theorem GyM.under (h : GyM w gq S K mv ms ss D b t p c x) : S < x.heap.size := (h.s.lt S rfl).2
theorem GyM.sum (h : GyM w gq S K mv ms ss D b t p c x) {i : Nat} (hi : i < K) : x.cell? ⟨S, i, none⟩ = some (.int .i64 (szAt ss i)) ∧ x.frozen? ⟨S, i, none⟩ = false := by
  have hi' : i < ss.length := by rw [h.sl]; exact hi
  have hs := h.s
  unfold IRow at hs
  rw [h.sl] at hs
  refine ⟨?_, hs.frozenAt i⟩
  rw [hs.cellAt i (by omega), List.getElem?_map, List.getElem?_eq_getElem hi']
  simp [szAt, List.getElem?_eq_getElem hi']
/-- Who has so many flows: its cells. -/
theorem GyM.flow (h : GyM w gq S K mv ms ss D b t p c x) {i : Nat} (hi : i < K) : ∃ g off ak ck, p = some ⟨g, off, none⟩ ∧ g < x.heap.size ∧ x.cell? ⟨g, off + i * 3, none⟩ = some (.int .i64 (fwAt D.flows i).weight) ∧ x.cell? ⟨g, off + i * 3 + 2, none⟩ = some (.slice ak (fwAt D.flows i).sizes.length ck) := by
  obtain ⟨a, c', e, hz⟩ := h.d.at
  have e2 : p = a := by
    unfold Fs.val at e
    simp only [Value.agg.injEq] at e
    have := congrArg (fun z => z.toList) e
    simp at this
    exact this.1
  subst e2
  obtain ⟨g, off, ak, ck, ea, hg, ⟨c0, _, c2⟩, _⟩ := hz i (by rw [h.kl]; exact hi)
  exact ⟨g, off, ak, ck, ea, hg, c0, c2⟩
theorem GyM.most (h : GyM w gq S K mv ms ss D b t p c x) {mx : Option Addr} {n mc : Nat} (hv : mv = .slice mx n mc) (hn : ms.length = n) {i : Nat} (hi : i < n) : ∃ g off, mx = some ⟨g, off, none⟩ ∧ g < x.heap.size ∧ x.cell? ⟨g, off + i, none⟩ = some (.int .i64 (szAt ms i)) := by
  have hm := h.m
  subst hn
  rw [hv] at hm
  exact hm.ints i hi
/-- One sum is turned. -/
theorem GyM.add (h : GyM w gq S K mv ms ss D b t p c x) (i : Nat) (z : Int) : GyM w gq S K mv ms (ss.set i z) D b t p c (x.setCell ⟨S, i, none⟩ (.int .i64 z)) := by
  have h1 := h.gs
  have h2 := h.lo
  have h3 := h.sd
  have oth : ∀ k, k ≠ S → (x.setCell ⟨S, i, none⟩ (.int .i64 z)).heap[k]? = x.heap[k]? := fun k hk => Below.heap_setCell _ _ _ _ hk
  have hs := h.s
  unfold IRow at hs
  rw [h.sl] at hs
  have hst := (World.ownsRow.stored hs i (.int .i64 z)).1
  refine ⟨h.bel.setCell (by show w.heap.size ≤ S; omega) _, h.q.far (by omega) _ _, h.d.keep (by simp [World.setCell]) fun k k1 k2 => oth k (by omega), fwrows_carry h.m fun k hk _ => oth k (by have := h.ml k hk; omega), h.ml, ?_, by rw [List.length_set]; exact h.sl, h.kl, h.lo, h.gs, h.gb, h.sd, by simpa [World.setCell] using h.tt⟩
  unfold IRow
  rw [List.length_set, List.map_set, h.sl]
  exact hst
/-- Other flows in the variable. -/
theorem GyM.next (h : GyM w gq S K mv ms ss D b t p c x) (hd : FsIn b' t' x (.agg #[.int .i64 D'.now, .slice p' K c']) D') (hk : D'.flows.length = K) (hb : S < b') (ht : t' ≤ x.heap.size) : GyM w gq S K mv ms ss D' b' t' p' c' (x.setRow gq #[.int .i64 D'.now, .slice p' K c']) := by
  have h1 := h.gs
  have h2 := h.lo
  have oth : ∀ k, k ≠ gq → (x.setRow gq #[.int .i64 D'.now, .slice p' K c']).heap[k]? = x.heap[k]? := fun k hk => setRow_other _ _ _ _ hk
  have sz : (x.setRow gq #[.int .i64 D'.now, .slice p' K c']).heap.size = x.heap.size := size_setRow _ _ _
  exact ⟨below_setRow h.bel h.lo _, setRow_heap _ _ _ _ _ _ h.q, hd.keep (by rw [sz]; exact Nat.le_refl _) fun k k1 k2 => oth k (by omega), fwrows_carry h.m fun k hk _ => oth k (by have := (h.m.lt k hk).1; omega), h.ml, fwrows_carry h.s fun k hk _ => oth k (by have := (h.s.lt k hk).1; omega), h.sl, hk, h.lo, h.gs, by omega, .inl hb, by rw [sz]; exact ht⟩
/-- So it begins. -/
theorem GyM.begin {v : Value} {rs : List Fwr} {l : List Fw} {va : Option Addr} {vc : Nat} (h : GyB w gq v rs l mv ms x) (hv : v = .slice va l.length vc) (hk : l.length ≤ 1048576) : GyM w gq x.heap.size l.length mv ms (List.replicate l.length 0) ⟨0, l⟩ (gq + 1) x.heap.size va vc (x.alloc (.cells (madeCells #[.int .i64 0] (l.length * 1)) 2)) := by
  have hq := h.q.under
  have b0 : Below x.heap.size x (x.alloc (.cells (madeCells #[.int .i64 0] (l.length * 1)) 2)) := (Below.refl _ _).alloc (Nat.le_refl _) _
  have h2 := h.below b0
  subst hv
  refine ⟨h2.bel, h2.q, ⟨va, vc, rfl, rs, (h.g.done).below b0⟩, h2.m, fun k hk => (h.m.lt k hk).2, mkInts_row x l.length hk, by simp, rfl, h.lo, hq, by omega, .inr (Nat.le_refl _), by simp⟩
end
/-- What is known of the sums behind i rounds: nought ahead of 'from'; else what the Finish has grown since. -/
structure GyS (ws : List Int) (D : Fs) (ss : List Int) (fr i : Int) : Prop where
  zero : i ≤ fr → ∀ a, a < ws.length → szAt ss a = 0
  grown : ∃ fs : Nat → Int, (∀ a, a < ws.length → szAt ss a = (fwAt D.flows a).finish - fs a) ∧ (∀ a, a < ws.length → 0 ≤ fs a ∧ fs a ≤ (fwAt D.flows a).finish) ∧ ∀ a b, a < ws.length → b < ws.length → fs a ≤ fs b + 200 * (2520 / szAt ws a)
section
variable {ws : List Int} {D D' : Fs} {ss : List Int} {fr i : Int}
theorem GyS.begin {left top : Int} (h : Gy D ws left top) (hz : ∀ a, a < ws.length → szAt ss a = 0) : GyS ws D ss fr i :=
  ⟨fun _ => hz, fun a => (fwAt D.flows a).finish, fun a ha => by rw [hz a ha]; show (0 : Int) = (fwAt D.flows a).finish - (fwAt D.flows a).finish; omega, fun a ha => ⟨((Fw.ok_iff.1 (Fs.ok_at h.ok (by rw [h.len]; exact ha))).2.1).1, Int.le_refl _⟩, h.near⟩
/-- The bound. -/
theorem GyS.bound {left top : Int} (h : GyS ws D ss fr i) (g : Gy D ws left top) {a b : Nat} (ha : a < ws.length) (hb : b < ws.length) : szAt ss a - szAt ss b ≤ 200 * (2520 / szAt ws a) + 200 * (2520 / szAt ws b) ∧ (0 ≤ szAt ss a ∧ szAt ss a ≤ top) ∧ 0 ≤ szAt ss b ∧ szAt ss b ≤ top := by
  obtain ⟨fs, h1, h2, h3⟩ := h.grown
  have e1 := h1 a ha
  have e2 := h1 b hb
  have n1 := g.near a b ha hb
  have n2 := h3 b a hb ha
  have b1 := h2 a ha
  have b2 := h2 b hb
  have t1 := g.top a ha
  have t2 := g.top b hb
  omega
theorem GyS.wait {left top : Int} (h : GyS ws D ss fr i) (g : Gy D' ws left top) (hi : i < fr) : GyS ws D' ss fr (i + 1) := GyS.begin g (h.zero (by omega))
theorem GyS.go (h : GyS ws D ss fr i) {bb : Nat} {n : Int} (hbb : bb < ws.length) (hsl : ss.length = ws.length) (hn : 0 ≤ n) (hf : ∀ a, a < ws.length → (fwAt D'.flows a).finish = (fwAt D.flows a).finish + if a = bb then n else 0) (hi : fr ≤ i) : GyS ws D' (ss.set bb (szAt ss bb + n)) fr (i + 1) := by
  obtain ⟨fs, h1, h2, h3⟩ := h.grown
  have hat : ∀ a, a < ws.length → szAt (ss.set bb (szAt ss bb + n)) a = szAt ss a + if a = bb then n else 0 := fun a ha => by
    unfold szAt
    by_cases e : a = bb
    · subst e
      rw [if_pos rfl]
      simp [hsl, ha]
    · rw [if_neg e, List.getElem?_set_ne (fun q => e q.symm)]
      omega
  refine ⟨fun h0 => by omega, fs, fun a ha => ?_, fun a ha => ?_, h3⟩
  · rw [hat a ha, hf a ha, h1 a ha]; omega
  · have := h2 a ha
    rw [hf a ha]
    by_cases e : a = bb
    · rw [if_pos e]; omega
    · rw [if_neg e]; omega
end
/-- What a round of the third loop finds. -/
def GyR3 (w : World) (gq S K : Nat) (mv : Value) (ms ws : List Int) (fr : Int) (i : Nat) (x : World) : Prop := ∃ D b t p c ss, GyM w gq S K mv ms ss D b t p c x ∧ Gy D ws (40 - (i : Int)) (504000 * (i : Int)) ∧ GyS ws D ss fr i
/-- Flows in a variable beside them. -/
structure GyY (gy S K : Nat) (D : Fs) (b t : Nat) (p : Option Addr) (c : Nat) (x : World) : Prop where
  box : Boxed x gy #[.int .i64 D.now, .slice p K c] 26
  mem : FsIn b t x (.agg #[.int .i64 D.now, .slice p K c]) D
  kl : D.flows.length = K
  sb : S < b
  sg : S < gy
  tt : t ≤ x.heap.size
section
variable {gy S K b t c : Nat} {D : Fs} {p : Option Addr} {x x' : World}
theorem GyY.below (h : GyY gy S K D b t p c x) (g : Below x.heap.size x x') : GyY gy S K D b t p c x' :=
  ⟨h.box.below h.box.under g, h.mem.below g, h.kl, h.sb, h.sg, Nat.le_trans h.tt g.size⟩
theorem GyY.add (h : GyY gy S K D b t p c x) (i : Nat) (v : Value) : GyY gy S K D b t p c (x.setCell ⟨S, i, none⟩ v) := by
  have h1 := h.sb
  have h2 := h.sg
  exact ⟨h.box.far (by omega) _ _, h.mem.keep (by simp [World.setCell]) fun k k1 k2 => Below.heap_setCell _ _ _ _ (by show k ≠ S; omega), h.kl, h.sb, h.sg, by simpa [World.setCell] using h.tt⟩
theorem GyY.new {zs : Array Value} (hd : FsIn b t x (.agg #[.int .i64 D.now, .slice p K c]) D) (hk : D.flows.length = K) (hb : S < b) (ht : t ≤ x.heap.size) (hS : S < x.heap.size) : GyY x.heap.size S K D b t p c ((x.alloc (.cells zs 26)).setRow x.heap.size #[.int .i64 D.now, .slice p K c]) := by
  have q : Below x.heap.size x ((x.alloc (.cells zs 26)).setRow x.heap.size #[.int .i64 D.now, .slice p K c]) := below_setRow ((Below.refl _ _).alloc (Nat.le_refl _) _) (Nat.le_refl _) _
  exact ⟨setRow_heap _ _ _ _ _ _ (Boxed.new x zs 26), hd.below q, hk, hb, hS, Nat.le_trans ht q.size⟩
end
/-- What lies behind the test for 'from'. -/
def GyT (w : World) (gq gy S K : Nat) (mv : Value) (ms ws : List Int) (fr : Int) (i : Nat) (D' : Fs) (b' t' : Nat) (p' : Option Addr) (c' : Nat) (x : World) : Prop := ∃ D b t p c ss, GyM w gq S K mv ms ss D b t p c x ∧ GyY gy S K D' b' t' p' c' x ∧ GyS ws D' ss fr ((i : Int) + 1)
end Go.Proofs.Ytllmkolchgmjoaa

/-
  What lies while the first one is taken off a wheel. By the verifier, by program.
-/
import Derived.Test.YtkocbfikcjgigaaGreatWhPu
namespace Go.Proofs.YtkocbfikcjgigaaGreat
open Go.RowKit

theorem results_two_tmp {P : Program} {fn : Func} {p q x : Tmp} {ty tz : TypeId} (h : fn.results = #[.cell p ty, .cell q tz, .tmp x]) (tmps : Array Value) (w : World) (g k : Nat) (t u : TypeId) (cs ds : Array Value) (fr gr : Nat × Nat) (d d' : TypeDesc) (v : Value)
    (hp : tmps.getD p undef = .pointer (some ⟨g, 0, none⟩)) (hq : tmps.getD q undef = .pointer (some ⟨k, 0, none⟩)) (hv : tmps.getD x undef = v) (hg : w.heap[g]? = some (.cells cs t fr)) (hk : w.heap[k]? = some (.cells ds u gr))
    (hu : P.underlying ty = some d) (hd : (match d with | .struct _ | .array _ _ => true | _ => false) = true) (hi : (P.info? ty).map (·.size) = some cs.size)
    (hu' : P.underlying tz = some d') (hd' : (match d' with | .struct _ | .array _ _ => true | _ => false) = true) (hi' : (P.info? tz).map (·.size) = some ds.size) :
    (results fn tmps).run P w = .ok (.tuple #[.agg cs, .agg ds, v]) w := by
  have hp' : tmps[p]?.getD undef = .pointer (some ⟨g, 0, none⟩) := by simpa using hp
  have hq' : tmps[q]?.getD undef = .pointer (some ⟨k, 0, none⟩) := by simpa using hq
  have hv' : tmps[x]?.getD undef = v := by simpa using hv
  simp [results, h, hp', hq', hv', asAddr, run_loadVar_row w g t ty cs fr d hg hu hd hi, run_loadVar_row w k u tz ds gr d' hk hu' hd' hi']
structure PoW (w : World) (f : Int) (a : Option Addr) (n c B G : Nat) (vx : Option Addr) (vc : Nat) (vs : List Value) (ls' : List (List Du)) (wr : World) : Prop where
  box : Boxed wr w.heap.size #[.int .i64 f, .slice a n c] 29
  res : Boxed wr (w.heap.size + 1) #[.int .i64 0, .slice none 0 0] 29
  item : Boxed wr (w.heap.size + 1 + 1) #[.int .i64 0, .int .i64 0] 33
  out : Boxed wr B #[.int .i64 f, .slice vx n vc] 29
  g : DzG G (.slice vx n vc) vs ls' wr
  bel : Below w.heap.size w wr
  lo : w.heap.size + 3 ≤ G
  hi : w.heap.size + 3 ≤ B
section
variable {w : World} {f : Int} {a : Option Addr} {n c B G : Nat} {vx : Option Addr} {vc : Nat} {vs : List Value} {ls' : List (List Du)} {wr wd : World}
theorem PoW.below (h : PoW w f a n c B G vx vc vs ls' wr) (g : Below wr.heap.size wr wd) : PoW w f a n c B G vx vc vs ls' wd :=
  ⟨h.box.below h.box.under g, h.res.below h.res.under g, h.item.below h.item.under g, h.out.below h.out.under g, h.g.below g, h.bel.trans (g.mono h.bel.size), h.lo, h.hi⟩
/-- Both variables filled. -/
theorem PoW.done (h : PoW w f a n c B G vx vc vs ls' wr) (hl : ls'.length = n) {wz : World} (ho : ∀ k, k ≠ w.heap.size + 1 → k ≠ w.heap.size + 1 + 1 → wz.heap[k]? = wr.heap[k]?) (hb : Below w.heap.size wr wz) :
    WhIn w.heap.size wz.heap.size wz (.agg #[.int .i64 f, .slice vx n vc]) ⟨f, ls'⟩ ∧ Below w.heap.size w wz := by
  have lo := h.lo
  refine ⟨⟨vx, vc, by unfold Wh.val; simp [hl], vs, ?_⟩, h.bel.trans hb⟩
  have hg : DzG G (.slice vx n vc) vs ls' wz := h.g.other fun k hk _ => ho k (by omega) (by omega)
  show DzV _ _ _ (.slice vx ls'.length vc) vs ls'
  rw [hl]
  exact hg.done.wide (by omega) (Nat.le_refl _) (Nat.le_refl _)
end
theorem two_rows {w : World} {a b : Nat} {x y : Array Value} (k : Nat) (h1 : k ≠ a) (h2 : k ≠ b) : ((w.setRow a x).setRow b y).heap[k]? = w.heap[k]? := by rw [setRow_other _ _ _ _ h2, setRow_other _ _ _ _ h1]

theorem take_fill {w : World} {s t n : Nat} {R I : TypeId} {z0 z1 y0 y1 : Value} (a b c d : Value) (h1 : Boxed w s #[z0, z1] R) (h2 : Boxed w t #[y0, y1] I) (hne : s ≠ t) (hs : n ≤ s) (ht : n ≤ t) :
    Boxed ((((w.setCell ⟨s, 0, none⟩ a).setCell ⟨s, 1, none⟩ b).setCell ⟨t, 0, none⟩ c).setCell ⟨t, 1, none⟩ d) s #[a, b] R ∧ Boxed ((((w.setCell ⟨s, 0, none⟩ a).setCell ⟨s, 1, none⟩ b).setCell ⟨t, 0, none⟩ c).setCell ⟨t, 1, none⟩ d) t #[c, d] I ∧ (∀ k, k ≠ s → k ≠ t → ((((w.setCell ⟨s, 0, none⟩ a).setCell ⟨s, 1, none⟩ b).setCell ⟨t, 0, none⟩ c).setCell ⟨t, 1, none⟩ d).heap[k]? = w.heap[k]?) ∧ Below n w ((((w.setCell ⟨s, 0, none⟩ a).setCell ⟨s, 1, none⟩ b).setCell ⟨t, 0, none⟩ c).setCell ⟨t, 1, none⟩ d) := by
  have o : ∀ (w : World) (g k j : Nat) (v : Value), k ≠ g → (w.setCell ⟨g, j, none⟩ v).heap[k]? = w.heap[k]? := fun w g k j v hk => Below.heap_setCell _ _ _ _ hk
  refine ⟨?_, ?_, fun k k1 k2 => ?_, ?_⟩
  · exact (((h1.put 0 a).put 1 b).far hne 0 c).far hne 1 d
  · exact ((((h2.far hne.symm 0 a).far hne.symm 1 b).put 0 c).put 1 d)
  · rw [o _ _ _ _ _ k2, o _ _ _ _ _ k2, o _ _ _ _ _ k1, o _ _ _ _ _ k1]
  · exact (((((Below.refl n w).setCell hs _).setCell hs _).setCell ht _).setCell ht _)
end Go.Proofs.YtkocbfikcjgigaaGreat

import Derived.Test.YtfdapmchpikfiaaStepRow
import Derived.Laws.ResultCell
import Derived.Laws.CopyOwn
import Derived.Deep.DeepCutAuto
import Derived.Test.YtfdapmchpikfiaaDrawRec
import Derived.Test.YtfdapmchpikfiaaRegList
import Derived.Test.YtfdapmchpikfiaaNdDraw
import Derived.OwnWalk
/-
  One assignment; the results of a function: a struct's variable and two slots. By the verifier.
-/
namespace Go.Proofs.Ytfdapmchpikfiaa
open Go.RowKit

theorem opAssign {P : Program} {o : Oper} {a : Act} {w : World} {K : Act → World → Prop} {Q : Exit → Act → World → Prop} (t : Tmp) (ho : o.op = .assign (.tmp t)) (h : K (a.put o.dst (a.tmps.getD t undef)) w) : o.wp P a w K Q := by
  unfold Oper.wp
  simp [execOp, ho, Act.eval, Oper.upon]
  simpa using h
/-- Results: a struct's variable, two slots. -/
theorem results_row_tmp2 {P : Program} {fn : Func} {p q q2 : Tmp} {ty : TypeId} (h : fn.results = #[.cell p ty, .tmp q, .tmp q2]) (tmps : Array Value) (w : World) (g : Nat) (t : TypeId) (cs : Array Value) (fr : Nat × Nat) (d : TypeDesc) (v v2 : Value)
    (hp : tmps.getD p undef = .pointer (some ⟨g, 0, none⟩)) (hv : tmps.getD q undef = v) (hv2 : tmps.getD q2 undef = v2) (hg : w.heap[g]? = some (.cells cs t fr))
    (hu : P.underlying ty = some d) (hd : (match d with | .struct _ | .array _ _ => true | _ => false) = true) (hi : (P.info? ty).map (·.size) = some cs.size) :
    (results fn tmps).run P w = .ok (.tuple #[.agg cs, v, v2]) w := by
  have hp' : tmps[p]?.getD undef = .pointer (some ⟨g, 0, none⟩) := by simpa using hp
  have hv' : tmps[q]?.getD undef = v := by simpa using hv
  have hv2' : tmps[q2]?.getD undef = v2 := by simpa using hv2
  simp [results, h, hp', hv', hv2', asAddr, run_loadVar_row w g t ty cs fr d hg hu hd hi]
end Go.Proofs.Ytfdapmchpikfiaa

/-
  A record that was drawn, the cursor and the answer's variable, while a region draws its order. By the verifier, by program.
-/
namespace Go.Proofs.Ytfdapmchpikfiaa
open Go.RowKit

/-- What lies behind the record that was drawn: the cursor, the record's variable. -/
structure DrO (t : TypeId) (W : World) (ac : Option Addr) (len cap : Nat) (w : World) (bc B : Nat) (cs : Array Value) (x : World) : Prop where
  cur : Cur W bc ac len cap x
  bel : Below w.heap.size w x
  out : Boxed x B cs t
  hB : bc < B
  hc : w.heap.size < bc
  hW : Below W.heap.size W w
section
variable {t : TypeId} {W : World} {ac : Option Addr} {len cap : Nat} {w : World} {bc B : Nat} {cs : Array Value} {x x' : World}
theorem DrO.draw (h : DrO t W ac len cap w bc B cs x) (c : Cur W bc ac len cap x') (k : Keep bc x x') : DrO t W ac len cap w bc B cs x' := by
  have h2 := h.hB
  have h3 := h.bel.size
  have h5 := h.hc
  exact ⟨c, bel_two h.hW c.bel (Nat.le_trans h3 k.size) fun y hy => (k.block y (by omega) (by omega)).trans (h.bel.block y hy), h.out.keep (by omega) k, h.hB, h.hc, h.hW⟩
theorem DrO.below (h : DrO t W ac len cap w bc B cs x) (g : Below x.heap.size x x') : DrO t W ac len cap w bc B cs x' :=
  ⟨h.cur.below h.cur.lt g, h.bel.trans (g.mono h.bel.size), h.out.below h.out.under g, h.hB, h.hc, h.hW⟩
theorem DrO.row (h : DrO t W ac len cap w bc B cs x) {g : Nat} (hg : w.heap.size ≤ g) (hg2 : g < bc) (ds : Array Value) : DrO t W ac len cap w bc B cs (x.setRow g ds) := by
  have h2 := h.hB
  have h6 := h.hW.size
  have o : ∀ k, k ≠ g → (x.setRow g ds).heap[k]? = x.heap[k]? := fun k hk => setRow_other _ _ _ _ hk
  exact ⟨h.cur.other (B := g) (by omega) o (below_setRow (Below.refl _ _) (by omega) _), below_setRow h.bel hg _, (o B (by omega)).trans h.out, h.hB, h.hc, h.hW⟩
/-- The record's variable filled. -/
theorem DrO.fill (h : DrO t W ac len cap w bc B cs x) (ds : Array Value) : DrO t W ac len cap w bc B ds (x.setRow B ds) := by
  have h2 := h.hB
  have h5 := h.hc
  have h6 := h.hW.size
  have o : ∀ k, k ≠ B → (x.setRow B ds).heap[k]? = x.heap[k]? := fun k hk => setRow_other _ _ _ _ hk
  exact ⟨h.cur.other (B := B) (by omega) o (below_setRow (Below.refl _ _) (by omega) _), below_setRow h.bel (by omega) _, setRow_heap _ _ _ _ _ _ h.out, h.hB, h.hc, h.hW⟩
end
theorem boxKeep {x x' : World} {g bc : Nat} {cs : Array Value} {t : TypeId} (h : Boxed x g cs t) (hg : g ≠ bc) (k : Keep bc x x') : Boxed x' g cs t := by
  unfold Boxed
  rw [k.block g hg h.under]
  exact h
end Go.Proofs.Ytfdapmchpikfiaa

/-
  The model's drawing of a tree, a node and a size. By the verifier, by program.
-/
namespace Go.Proofs.Ytfdapmchpikfiaa
open Go.RowKit

set_option maxHeartbeats 3200000 in
set_option maxRecDepth 100000 in
theorem dDrawCan {W : World} {ac : Option Addr} {len cap : Nat} (hc : Hid (Code W ac len)) (w : World) (bel : Hid (Below W.heap.size W w)) :
    Calls Try.prog 27 #[.slice ac len cap] w fun e w' => (∃ (v : Value) (l : List Nd) (n : Int) (size : Int), e = .returned (.tuple #[v, .int .i64 n, .int .i64 size]) ∧ NdRow w.heap.size w' v l ∧ l.length ≤ 17 ∧ (0 ≤ n ∧ n ≤ 6) ∧ (-1 ≤ size ∧ size ≤ 60)) ∧ Below w.heap.size w w' := by
  have hle := bel.out.size
  go_enter Try.func27, Try.ntmps27
  go_wp2_with fail
  refine (drawNew hc _ bel).mono ?_
  rintro e w1 ⟨rfl, c1, b1⟩
  have H1 : Hid (Cur W w.heap.size ac len cap w1 ∧ Below w.heap.size w w1 ∧ w.heap.size < w1.heap.size) := ⟨c1, b1, c1.lt⟩
  clear c1 b1
  go_wp2_with fail
  refine (drawTree hc _ H1.out.1).mono ?_
  rintro e w2 ⟨⟨v, l, rfl, r2, hl⟩, c2, k2⟩
  have H2 : Hid (Cur W w.heap.size ac len cap w2 ∧ Below w.heap.size w w2 ∧ w.heap.size < w2.heap.size ∧ NdRow (w.heap.size + 1) w2 v l) := by
    have q1 := H1.out.2.2
    have q2 := k2.size
    exact ⟨c2, bel_two bel.out c2.bel (by omega) fun k hk => (k2.block k (by omega) (by omega)).trans (H1.out.2.1.block k hk), by omega, r2.mono (by omega)⟩
  have HL : Hid (l.length ≤ 17) := hl
  clear r2 hl c2 k2 H1
  go_wp2_with fail
  refine (drawFrom hc (0) 6 (by omega) (by omega) (by omega) _ H2.out.1).mono ?_
  rintro e w3 ⟨⟨n, rfl, n0, n1⟩, c3, k3⟩
  have H3 : Hid (Cur W w.heap.size ac len cap w3 ∧ Below w.heap.size w w3 ∧ w.heap.size < w3.heap.size ∧ NdRow (w.heap.size + 1) w3 v l) := by
    have q1 := H2.out.2.2.1
    have q2 := k3.size
    exact ⟨c3, bel_two bel.out c3.bel (by omega) fun k hk => (k3.block k (by omega) (by omega)).trans (H2.out.2.1.block k hk), by omega, H2.out.2.2.2.carry (fun k hk hlt => k3.block k (by have := (H2.out.2.2.2.lt k hk).1; omega) hlt)⟩
  clear c3 k3 H2
  go_wp2_with fail
  refine (drawFrom hc (-1) 60 (by omega) (by omega) (by omega) _ H3.out.1).mono ?_
  rintro e w4 ⟨⟨size, rfl, size0, size1⟩, c3, k3⟩
  have H4 : Hid (Cur W w.heap.size ac len cap w4 ∧ Below w.heap.size w w4 ∧ w.heap.size < w4.heap.size ∧ NdRow (w.heap.size + 1) w4 v l) := by
    have q1 := H3.out.2.2.1
    have q2 := k3.size
    exact ⟨c3, bel_two bel.out c3.bel (by omega) fun k hk => (k3.block k (by omega) (by omega)).trans (H3.out.2.1.block k hk), by omega, H3.out.2.2.2.carry (fun k hk hlt => k3.block k (by have := (H3.out.2.2.2.lt k hk).1; omega) hlt)⟩
  clear c3 k3 H3
  go_wp2
  go_ret3
  exact ⟨⟨v, l, n, size, rfl, H4.out.2.2.2.mono (by omega), HL.out, ⟨n0, n1⟩, ⟨size0, size1⟩⟩, H4.out.2.1⟩
end Go.Proofs.Ytfdapmchpikfiaa

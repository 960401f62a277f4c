/-
  A record that was drawn, the cursor and the answer's variable, while a region draws its order. By the verifier, by program.
-/
import Derived.Test.YtemegnfefjcdaaaDoorDrawRec
import Derived.Test.YtemegnfefjcdaaaDoorStepRow
import Derived.Test.YtemegnfefjcdaaaDoorRegList
import Derived.Deep.DeepCutAuto
namespace Go.Proofs.YtemegnfefjcdaaaDoor
open Go.RowKit

/-- What lies behind the record that was drawn: the cursor, the record's variable. -/
structure DrO (t : TypeId) (W : World) (ac : Option Addr) (len cap : Nat) (w : World) (bc B : Nat) (cs : Array Value) (x : World) : Prop where
  cur : Cur W bc ac len cap x
  bel : Below w.heap.size w x
  out : Boxed x B cs t
  hB : bc < B
  hc : w.heap.size < bc
  hW : Below W.heap.size W w
section
variable {t : TypeId} {W : World} {ac : Option Addr} {len cap : Nat} {w : World} {bc B : Nat} {cs : Array Value} {x x' : World}
theorem DrO.draw (h : DrO t W ac len cap w bc B cs x) (c : Cur W bc ac len cap x') (k : Keep bc x x') : DrO t W ac len cap w bc B cs x' := by
  have h2 := h.hB
  have h3 := h.bel.size
  have h5 := h.hc
  exact ⟨c, bel_two h.hW c.bel (Nat.le_trans h3 k.size) fun y hy => (k.block y (by omega) (by omega)).trans (h.bel.block y hy), h.out.keep (by omega) k, h.hB, h.hc, h.hW⟩
theorem DrO.below (h : DrO t W ac len cap w bc B cs x) (g : Below x.heap.size x x') : DrO t W ac len cap w bc B cs x' :=
  ⟨h.cur.below h.cur.lt g, h.bel.trans (g.mono h.bel.size), h.out.below h.out.under g, h.hB, h.hc, h.hW⟩
theorem DrO.row (h : DrO t W ac len cap w bc B cs x) {g : Nat} (hg : w.heap.size ≤ g) (hg2 : g < bc) (ds : Array Value) : DrO t W ac len cap w bc B cs (x.setRow g ds) := by
  have h2 := h.hB
  have h6 := h.hW.size
  have o : ∀ k, k ≠ g → (x.setRow g ds).heap[k]? = x.heap[k]? := fun k hk => setRow_other _ _ _ _ hk
  exact ⟨h.cur.other (B := g) (by omega) o (below_setRow (Below.refl _ _) (by omega) _), below_setRow h.bel hg _, (o B (by omega)).trans h.out, h.hB, h.hc, h.hW⟩
/-- The record's variable filled. -/
theorem DrO.fill (h : DrO t W ac len cap w bc B cs x) (ds : Array Value) : DrO t W ac len cap w bc B ds (x.setRow B ds) := by
  have h2 := h.hB
  have h5 := h.hc
  have h6 := h.hW.size
  have o : ∀ k, k ≠ B → (x.setRow B ds).heap[k]? = x.heap[k]? := fun k hk => setRow_other _ _ _ _ hk
  exact ⟨h.cur.other (B := B) (by omega) o (below_setRow (Below.refl _ _) (by omega) _), below_setRow h.bel (by omega) _, setRow_heap _ _ _ _ _ _ h.out, h.hB, h.hc, h.hW⟩
end
theorem boxKeep {x x' : World} {g bc : Nat} {cs : Array Value} {t : TypeId} (h : Boxed x g cs t) (hg : g ≠ bc) (k : Keep bc x x') : Boxed x' g cs t := by
  unfold Boxed
  rw [k.block g hg h.under]
  exact h
theorem opAssign {P : Program} {o : Oper} {a : Act} {w : World} {K : Act → World → Prop} {Q : Exit → Act → World → Prop} (t : Tmp) (ho : o.op = .assign (.tmp t)) (h : K (a.put o.dst (a.tmps.getD t undef)) w) : o.wp P a w K Q := by
  unfold Oper.wp
  simp [execOp, ho, Act.eval, Oper.upon]
  simpa using h
/-- Results: a struct's variable, two slots. -/
theorem results_row_tmp2 {P : Program} {fn : Func} {p q q2 : Tmp} {ty : TypeId} (h : fn.results = #[.cell p ty, .tmp q, .tmp q2]) (tmps : Array Value) (w : World) (g : Nat) (t : TypeId) (cs : Array Value) (fr : Nat × Nat) (d : TypeDesc) (v v2 : Value)
    (hp : tmps.getD p undef = .pointer (some ⟨g, 0, none⟩)) (hv : tmps.getD q undef = v) (hv2 : tmps.getD q2 undef = v2) (hg : w.heap[g]? = some (.cells cs t fr))
    (hu : P.underlying ty = some d) (hd : (match d with | .struct _ | .array _ _ => true | _ => false) = true) (hi : (P.info? ty).map (·.size) = some cs.size) :
    (results fn tmps).run P w = .ok (.tuple #[.agg cs, v, v2]) w := by
  have hp' : tmps[p]?.getD undef = .pointer (some ⟨g, 0, none⟩) := by simpa using hp
  have hv' : tmps[q]?.getD undef = v := by simpa using hv
  have hv2' : tmps[q2]?.getD undef = v2 := by simpa using hv2
  simp [results, h, hp', hv', hv2', asAddr, run_loadVar_row w g t ty cs fr d hg hu hd hi]
end Go.Proofs.YtemegnfefjcdaaaDoor

import Derived.Test.YtllmkolchgmjoaaDrawCur
import Derived.Laws.ResultCell
import Derived.Laws.CopyOwn
import Derived.Laws.Rows
import Derived.Laws.Tables
import Derived.Test.YtllmkolchgmjoaaStepRow
import Derived.Deep.DeepCutAuto
import Derived.Test.YtllmkolchgmjoaaRegList
/-
  The model's drawing of a record of numbers: the record that is drawn, the answer's variable and the cursor as one fact, whatever the record. By the verifier.
-/
namespace Go.Proofs.Ytllmkolchgmjoaa
open Go.RowKit

/-- The call's own memory: the record that is drawn (cs at B), the answer's variable (zs at A), the cursor. -/
structure DrX (t : TypeId) (zs : Array Value) (W : World) (bc : Nat) (ac : Option Addr) (len cap : Nat) (w : World) (A B : Nat) (cs : Array Value) (wr : World) : Prop where
  rt : Boxed wr B cs t
  res : Boxed wr A zs t
  cur : Cur W bc ac len cap wr
  kp : Keep bc w wr
  lo : w.heap.size ≤ A
  lt : A < B
  bl : bc < w.heap.size
section
variable {t : TypeId} {zs : Array Value} {W : World} {bc : Nat} {ac : Option Addr} {len cap : Nat} {w : World} {A B : Nat} {cs cs' : Array Value} {wr wd : World}
theorem DrX.draw (h : DrX t zs W bc ac len cap w A B cs wr) (c : Cur W bc ac len cap wd) (k : Keep bc wr wd) : DrX t zs W bc ac len cap w A B cs wd := by
  have := h.lt
  have := h.lo
  have := h.bl
  exact ⟨h.rt.keep (by omega) k, h.res.keep (by omega) k, c, h.kp.trans k, h.lo, h.lt, h.bl⟩
theorem DrX.more (h : DrX t zs W bc ac len cap w A B cs wr) (o : Obj) : DrX t zs W bc ac len cap w A B cs (wr.alloc o) :=
  ⟨h.rt.more _, h.res.more _, h.cur.alloc _, h.kp.alloc _, h.lo, h.lt, h.bl⟩
theorem DrX.drew (h : DrX t zs W bc ac len cap w A B cs wr) : DrX t zs W bc ac len cap w A B cs wr.drew :=
  ⟨h.rt, h.res, h.cur.drew, h.kp.drew, h.lo, h.lt, h.bl⟩
theorem DrX.put (h : DrX t zs W bc ac len cap w A B cs wr) (j : Nat) (v : Value) (hr : cs.setIfInBounds j v = cs') : DrX t zs W bc ac len cap w A B cs' (wr.setCell ⟨B, j, none⟩ v) := by
  have h0 := h.lo
  have h1 := h.lt
  have h2 := h.bl
  have h3 := h.cur.bel.size
  have h4 := h.cur.lo
  have o : ∀ k, k ≠ B → (wr.setCell ⟨B, j, none⟩ v).heap[k]? = wr.heap[k]? := fun k hk => Below.heap_setCell _ _ _ _ hk
  refine ⟨by rw [← hr]; exact h.rt.put j v, h.res.far (by omega) j v, h.cur.other (by omega) o ((Below.refl _ _).setCell (p := ⟨B, j, none⟩) (by show W.heap.size ≤ B; omega) _), ⟨by have := h.kp.size; simp only [World.setCell, Array.size_modify]; exact this, fun k g1 g2 => (o k (by omega)).trans (h.kp.block k g1 g2)⟩, h.lo, h.lt, h.bl⟩
/-- The answer's variable filled: the cursor and all that lay stay. -/
theorem DrX.filled (h : DrX t zs W bc ac len cap w A B cs wr) : Cur W bc ac len cap (wr.setRow A cs) ∧ Keep bc w (wr.setRow A cs) := by
  have g0 := h.lo
  have g1 := h.lt
  have g2 := h.bl
  have g3 := h.cur.lo
  have o : ∀ k, k ≠ A → (wr.setRow A cs).heap[k]? = wr.heap[k]? := fun k hk => setRow_other _ _ _ _ hk
  refine ⟨h.cur.other (B := A) (by omega) o (below_setRow (Below.refl _ _) (by omega) _), ?_⟩
  exact ⟨by rw [size_setRow]; exact h.kp.size, fun k q1 q2 => (o k (by omega)).trans (h.kp.block k q1 q2)⟩
theorem DrX.done (h : DrX t zs W bc ac len cap w A B cs wr) {fn : Func} {p : Tmp} {fs : Array Field} {tt : Act} (hres : fn.results = #[.cell p t]) (h2 : tt.tmps.getD p undef = .pointer (some ⟨A, 0, none⟩)) (hd : tt.defers = [])
    (hu : Try.prog.underlying t = some (.struct fs)) (hi : (Try.prog.info? t).map (·.size) = some cs.size) {R : Value → Prop} (hR : R (.agg cs)) :
    bodyPost Try.prog fn (fun e w' => (∃ v, e = .returned v ∧ R v) ∧ Cur W bc ac len cap w' ∧ Keep bc w w') .ret tt (wr.setRow A cs) :=
  bodyPost_ret (results_cell_row hres _ _ A _ _ _ _ h2 (setRow_heap wr A _ _ _ _ h.res) hu rfl hi) hd ⟨⟨_, rfl, hR⟩, h.filled⟩
end
theorem ones3 (a b c : Int) : (#[Value.int .i64 a, .int .i64 b, .int .i64 c] : Array Value).all (·.oneCell') = true := by simp [Value.oneCell']
end Go.Proofs.Ytllmkolchgmjoaa

/-
  One assignment; the results of a function: a struct's variable and two slots. By the verifier.
-/
namespace Go.Proofs.Ytllmkolchgmjoaa
open Go.RowKit

theorem opAssign {P : Program} {o : Oper} {a : Act} {w : World} {K : Act → World → Prop} {Q : Exit → Act → World → Prop} (t : Tmp) (ho : o.op = .assign (.tmp t)) (h : K (a.put o.dst (a.tmps.getD t undef)) w) : o.wp P a w K Q := by
  unfold Oper.wp
  simp [execOp, ho, Act.eval, Oper.upon]
  simpa using h
/-- Results: a struct's variable, two slots. -/
theorem results_row_tmp2 {P : Program} {fn : Func} {p q q2 : Tmp} {ty : TypeId} (h : fn.results = #[.cell p ty, .tmp q, .tmp q2]) (tmps : Array Value) (w : World) (g : Nat) (t : TypeId) (cs : Array Value) (fr : Nat × Nat) (d : TypeDesc) (v v2 : Value)
    (hp : tmps.getD p undef = .pointer (some ⟨g, 0, none⟩)) (hv : tmps.getD q undef = v) (hv2 : tmps.getD q2 undef = v2) (hg : w.heap[g]? = some (.cells cs t fr))
    (hu : P.underlying ty = some d) (hd : (match d with | .struct _ | .array _ _ => true | _ => false) = true) (hi : (P.info? ty).map (·.size) = some cs.size) :
    (results fn tmps).run P w = .ok (.tuple #[.agg cs, v, v2]) w := by
  have hp' : tmps[p]?.getD undef = .pointer (some ⟨g, 0, none⟩) := by simpa using hp
  have hv' : tmps[q]?.getD undef = v := by simpa using hv
  have hv2' : tmps[q2]?.getD undef = v2 := by simpa using hv2
  simp [results, h, hp', hv', hv2', asAddr, run_loadVar_row w g t ty cs fr d hg hu hd hi]
end Go.Proofs.Ytllmkolchgmjoaa

/-
  A record that was drawn, the cursor and the answer's variable, while a region draws its order. By the verifier, by program.
-/
namespace Go.Proofs.Ytllmkolchgmjoaa
open Go.RowKit

/-- What lies behind the record that was drawn: the cursor, the record's variable. -/
structure DrO (t : TypeId) (W : World) (ac : Option Addr) (len cap : Nat) (w : World) (bc B : Nat) (cs : Array Value) (x : World) : Prop where
  cur : Cur W bc ac len cap x
  bel : Below w.heap.size w x
  out : Boxed x B cs t
  hB : bc < B
  hc : w.heap.size < bc
  hW : Below W.heap.size W w
section
variable {t : TypeId} {W : World} {ac : Option Addr} {len cap : Nat} {w : World} {bc B : Nat} {cs : Array Value} {x x' : World}
theorem DrO.draw (h : DrO t W ac len cap w bc B cs x) (c : Cur W bc ac len cap x') (k : Keep bc x x') : DrO t W ac len cap w bc B cs x' := by
  have h2 := h.hB
  have h3 := h.bel.size
  have h5 := h.hc
  exact ⟨c, bel_two h.hW c.bel (Nat.le_trans h3 k.size) fun y hy => (k.block y (by omega) (by omega)).trans (h.bel.block y hy), h.out.keep (by omega) k, h.hB, h.hc, h.hW⟩
theorem DrO.below (h : DrO t W ac len cap w bc B cs x) (g : Below x.heap.size x x') : DrO t W ac len cap w bc B cs x' :=
  ⟨h.cur.below h.cur.lt g, h.bel.trans (g.mono h.bel.size), h.out.below h.out.under g, h.hB, h.hc, h.hW⟩
theorem DrO.row (h : DrO t W ac len cap w bc B cs x) {g : Nat} (hg : w.heap.size ≤ g) (hg2 : g < bc) (ds : Array Value) : DrO t W ac len cap w bc B cs (x.setRow g ds) := by
  have h2 := h.hB
  have h6 := h.hW.size
  have o : ∀ k, k ≠ g → (x.setRow g ds).heap[k]? = x.heap[k]? := fun k hk => setRow_other _ _ _ _ hk
  exact ⟨h.cur.other (B := g) (by omega) o (below_setRow (Below.refl _ _) (by omega) _), below_setRow h.bel hg _, (o B (by omega)).trans h.out, h.hB, h.hc, h.hW⟩
/-- The record's variable filled. -/
theorem DrO.fill (h : DrO t W ac len cap w bc B cs x) (ds : Array Value) : DrO t W ac len cap w bc B ds (x.setRow B ds) := by
  have h2 := h.hB
  have h5 := h.hc
  have h6 := h.hW.size
  have o : ∀ k, k ≠ B → (x.setRow B ds).heap[k]? = x.heap[k]? := fun k hk => setRow_other _ _ _ _ hk
  exact ⟨h.cur.other (B := B) (by omega) o (below_setRow (Below.refl _ _) (by omega) _), below_setRow h.bel (by omega) _, setRow_heap _ _ _ _ _ _ h.out, h.hB, h.hc, h.hW⟩
end
theorem boxKeep {x x' : World} {g bc : Nat} {cs : Array Value} {t : TypeId} (h : Boxed x g cs t) (hg : g ≠ bc) (k : Keep bc x x') : Boxed x' g cs t := by
  unfold Boxed
  rw [k.block g hg h.under]
  exact h
end Go.Proofs.Ytllmkolchgmjoaa

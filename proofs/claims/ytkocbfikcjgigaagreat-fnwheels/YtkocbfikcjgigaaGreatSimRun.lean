/-
  Two runs that part in one function value alone: step by step, and whole calls. By the verifier.
-/
import Derived.Test.YtkocbfikcjgigaaGreatM15SimOp
namespace Go.Proofs.YtkocbfikcjgigaaGreat
open Go Go.Shelf

structure SimOk (P : Program) (T : FuncId → Option (List Tmp)) (v1 v2 : Value) (g0 : FuncId) : Prop where
  fns : ∀ g G, T g = some G → okFn P T g G = true
  one : T g0 = some []
  e1 : ∀ (args : Array Value) (w : World), args.size = 2 → (do let d ← Deferred.ofValue v1 args; invoke d.target d.args : Sem Next).run P w = .ok (.enter g0 args) w
  e2 : ∀ (args : Array Value) (w : World), args.size = 2 → (do let d ← Deferred.ofValue v2 args; invoke d.target d.args : Sem Next).run P w = .ok (.enter g0 args) w
  n1 : ∀ b, v1 ≠ .bool b
  n2 : ∀ b, v2 ≠ .bool b
  early : ∀ g, P.stepOf g = none

variable {P : Program} {T : FuncId → Option (List Tmp)} {v1 v2 : Value} {g0 : FuncId}

/-- A frame that has called another one. -/
def FrR (T : FuncId → Option (List Tmp)) (v1 v2 : Value) (a b : Frame) : Prop :=
  ∃ fn t t' ops i rest k o F, a = fx fn t (.inRegion ops (i :: rest) :: k) .run ∧ b = fx fn t' (.inRegion ops (i :: rest) :: k) .run ∧ T fn = some F ∧ TmpR v1 v2 F t t' ∧ (Item.inRegion ops (i :: rest) :: k).all (okItem T F) = true ∧ ops[i]? = some o ∧ dstOk F o = true
def StkR (T : FuncId → Option (List Tmp)) (v1 v2 : Value) : List Frame → List Frame → Prop
  | [], [] => True
  | a :: r, b :: s => FrR T v1 v2 a b ∧ StkR T v1 v2 r s
  | _, _ => False
def MR (T : FuncId → Option (List Tmp)) (v1 v2 : Value) (fn : FuncId) (t t' : Array Value) (todo : List Item) (stk stk' : List Frame) : Prop :=
  (∃ F, T fn = some F ∧ TmpR v1 v2 F t t' ∧ todo.all (okItem T F) = true) ∧ StkR T v1 v2 stk stk'
/-- What one step comes to. -/
def Went (P : Program) (T : FuncId → Option (List Tmp)) (v1 v2 : Value) (fn : FuncId) (t t' : Array Value) (todo : List Item) (mode : FrameMode) (stk stk' cs : List Frame) (w : World) : Prop :=
  (∃ o w', step P (lone (fx fn t todo mode) (stk ++ [c0 P]) w) = .ended o w') ∨
  (∃ m1, step P (lone (fx fn t todo mode) (stk ++ [c0 P]) w) = .next m1 ∧ Dead P m1) ∨
  ∃ fn1 t1 t1' todo1 mode1 stk1 stk1' w1, step P (lone (fx fn t todo mode) (stk ++ [c0 P]) w) = .next (lone (fx fn1 t1 todo1 mode1) (stk1 ++ [c0 P]) w1) ∧ step P (lone (fx fn t' todo mode) (stk' ++ cs) w) = .next (lone (fx fn1 t1' todo1 mode1) (stk1' ++ cs) w1) ∧ MR T v1 v2 fn1 t1 t1' todo1 stk1 stk1'

theorem at_put (fn : FuncId) (t : Array Value) (dst : Option Tmp) (v : Value) (todo : List Item) : (fx fn #[] [] .run).at ((Act.mk t []).put dst v) todo = fx fn (putT t dst v) todo .run := by
  cases dst <;> rfl
section
variable {fn : FuncId} {t : Array Value} {ops : Array Oper} {i : Nat} {rest : List Nat} {k : List Item} {cs : List Frame} {w w' : World} {o : Oper}
theorem op_value (ho : ops[i]? = some o) (hw : Region.wanted o (yielded ops t) = true) {v : Value} (hr : (execOp (Act.mk t []).eval o).run P w = .ok (.value v) w') :
    step P (lone (fx fn t (.inRegion ops (i :: rest) :: k) .run) cs w) = .next (lone (fx fn (putT t o.dst v) (.inRegion ops rest :: k) .run) cs w') := by
  have hg := stepG_op (P := P) (b := fx fn #[] [] .run) (a := Act.mk t []) (k := k) (cs := cs) (w := w) (rest := rest) ho hw
  have hfin := Frame.finish_at (fx fn #[] [] .run) (Act.mk t []) ops i rest k v
  rw [ho] at hfin
  rw [← at_put]
  refine step_lone_go (fr := (fx fn #[] [] .run).at (Act.mk t []) (.inRegion ops (i :: rest) :: k)) ?_
  rw [hg]
  simp only [stepG.apply, Sem.runT_eq, hr, GStep.bare_after, if_true]
  exact congrArg (fun fr => GStep.go { frame := fr, callers := cs, status := .running, dying := none } w') hfin
theorem op_skip (ho : ops[i]? = some o) (hw : Region.wanted o (yielded ops t) = true) (hr : (execOp (Act.mk t []).eval o).run P w = .ok .skip w') :
    step P (lone (fx fn t (.inRegion ops (i :: rest) :: k) .run) cs w) = .next (lone (fx fn (putT t o.dst undef) (.inRegion ops rest :: k) .run) cs w') := by
  have hg := stepG_op (P := P) (b := fx fn #[] [] .run) (a := Act.mk t []) (k := k) (cs := cs) (w := w) (rest := rest) ho hw
  have hfin := Frame.finish_at (fx fn #[] [] .run) (Act.mk t []) ops i rest k undef
  rw [ho] at hfin
  rw [← at_put]
  refine step_lone_go (fr := (fx fn #[] [] .run).at (Act.mk t []) (.inRegion ops (i :: rest) :: k)) ?_
  rw [hg]
  simp only [stepG.apply, Sem.runT_eq, hr, GStep.bare_after, if_true]
  exact congrArg (fun fr => GStep.go { frame := fr, callers := cs, status := .running, dying := none } w') hfin
theorem op_bare (ho : ops[i]? = some o) (hw : Region.wanted o (yielded ops t) = true) :
    stepG P true { frame := fx fn t (.inRegion ops (i :: rest) :: k) .run, callers := cs, status := .running, dying := none } w = stepG.apply P true (fx fn t (.inRegion ops (i :: rest) :: k) .run) cs none (execOp (Act.mk t []).eval o) w :=
  stepG_op (P := P) (b := fx fn #[] [] .run) (a := Act.mk t []) (k := k) (cs := cs) (w := w) (rest := rest) ho hw
theorem op_enter (ho : ops[i]? = some o) (hw : Region.wanted o (yielded ops t) = true) {f : FuncId} {args : Array Value} (hr : (execOp (Act.mk t []).eval o).run P w = .ok (.enter f args) w') :
    step P (lone (fx fn t (.inRegion ops (i :: rest) :: k) .run) cs w) = .next (lone (Frame.enter P f args .normal) (fx fn t (.inRegion ops (i :: rest) :: k) .run :: cs) w') := by
  refine step_lone_go ?_
  rw [op_bare ho hw]
  simp [stepG.apply, hr, fx]
theorem op_panic (ho : ops[i]? = some o) (hw : Region.wanted o (yielded ops t) = true) {v : Value} (hr : (execOp (Act.mk t []).eval o).run P w = .halt (.panic v) w') :
    step P (lone (fx fn t (.inRegion ops (i :: rest) :: k) .run) cs w) = .next (lone (fx fn t (.inRegion ops (i :: rest) :: k) (.panicking [{ v, recovered := false }])) cs w') := by
  refine step_lone_go ?_
  rw [op_bare ho hw]
  simp [stepG.apply, hr, fx, Frame.raise]
theorem op_goexit (ho : ops[i]? = some o) (hw : Region.wanted o (yielded ops t) = true) (hr : (execOp (Act.mk t []).eval o).run P w = .halt .goexit w') :
    step P (lone (fx fn t (.inRegion ops (i :: rest) :: k) .run) cs w) = .next (lone (fx fn t (.inRegion ops (i :: rest) :: k) (.panicking [goexitEntry])) cs w') := by
  refine step_lone_go ?_
  rw [op_bare ho hw]
  simp [stepG.apply, hr, fx, Frame.raise]
theorem step_lone_rests {fr fr' : Frame} {cs' : List Frame} {st : GoStatus} {dy : Option Dying}
    (h : (stepG P true { frame := fr, callers := cs, status := .running, dying := none } w).bare = .go { frame := fr', callers := cs', status := st, dying := dy } w') :
    step P (lone fr cs w) = .next (rests fr' cs' st dy w') := by
  generalize hs : stepG P true { frame := fr, callers := cs, status := .running, dying := none } w = s at h
  cases s <;> simp at h
  obtain ⟨rfl, rfl⟩ := h
  rw [step, stepT, move_lone]
  simp [runT, lone, rests, Array.swapAt!, hs]
theorem op_blocked (ho : ops[i]? = some o) (hw : Region.wanted o (yielded ops t) = true) (hr : (execOp (Act.mk t []).eval o).run P w = .halt .blocked w') :
    ∃ m1, step P (lone (fx fn t (.inRegion ops (i :: rest) :: k) .run) cs w) = .next m1 ∧ Dead P m1 := by
  refine ⟨_, step_lone_rests (st := .blocked) (dy := none) (w' := w') (cs' := cs) (fr' := fx fn t (.inRegion ops (i :: rest) :: k) .run) ?_, dead_blocked _ _ _⟩
  rw [op_bare ho hw]
  simp [stepG.apply, hr]
theorem op_waiting (ho : ops[i]? = some o) (hw : Region.wanted o (yielded ops t) = true) (hr : (execOp (Act.mk t []).eval o).run P w = .halt .waiting w') :
    ∃ m1, step P (lone (fx fn t (.inRegion ops (i :: rest) :: k) .run) cs w) = .next m1 ∧ Dead P m1 := by
  refine ⟨_, step_lone_rests (st := .waiting) (dy := none) (w' := w') (cs' := cs) (fr' := fx fn t (.inRegion ops (i :: rest) :: k) .run) ?_, dead_waiting _ _ _⟩
  rw [op_bare ho hw]
  simp [stepG.apply, hr]
theorem dieOf_dead {fr fr2 : Frame} {ahead : List ByteArray} {m : String} {whole : Bool} (h : (stepG P true { frame := fr, callers := cs, status := .running, dying := none } w).bare = (dieOf fr2 ahead m whole w').bare) :
    ∃ m1, step P (lone fr cs w) = .next m1 ∧ Dead P m1 := by
  refine ⟨_, step_lone_rests h, fun n => dead_dies n _ _ _ _ rfl rfl⟩
theorem op_throw (ho : ops[i]? = some o) (hw : Region.wanted o (yielded ops t) = true) {m : String} (hr : (execOp (Act.mk t []).eval o).run P w = .halt (.throw m) w') :
    ∃ m1, step P (lone (fx fn t (.inRegion ops (i :: rest) :: k) .run) cs w) = .next m1 ∧ Dead P m1 := by
  refine dieOf_dead (fr2 := fx fn t (.inRegion ops (i :: rest) :: k) .run) (ahead := []) (m := m) (whole := false) (w' := w') ?_
  rw [op_bare ho hw]
  simp [stepG.apply, hr, endThrow]
theorem op_fatal (ho : ops[i]? = some o) (hw : Region.wanted o (yielded ops t) = true) {m : String} (hr : (execOp (Act.mk t []).eval o).run P w = .halt (.fatal m) w') :
    (∃ o w', step P (lone (fx fn t (.inRegion ops (i :: rest) :: k) .run) cs w) = .ended o w') ∨ ∃ m1, step P (lone (fx fn t (.inRegion ops (i :: rest) :: k) .run) cs w) = .next m1 ∧ Dead P m1 := by
  have hb : (stepG P true { frame := fx fn t (.inRegion ops (i :: rest) :: k) .run, callers := cs, status := .running, dying := none } w).bare = (endFatal P (fx fn t (.inRegion ops (i :: rest) :: k) .run) cs none m w').bare := by
    rw [op_bare ho hw]
    simp [stepG.apply, hr]
  unfold endFatal at hb
  dsimp only at hb
  split at hb
  · exact .inr (dieOf_dead hb)
  · exact .inl ⟨_, _, step_lone_ended hb⟩
  · exact .inl ⟨_, _, step_lone_ended hb⟩
theorem op_exit (ho : ops[i]? = some o) (hw : Region.wanted o (yielded ops t) = true) {c : Int} (hr : (execOp (Act.mk t []).eval o).run P w = .halt (.exit c) w') :
    ∃ o w', step P (lone (fx fn t (.inRegion ops (i :: rest) :: k) .run) cs w) = .ended o w' := by
  refine ⟨.exit c, w', step_lone_ended ?_⟩
  rw [op_bare ho hw]
  simp [stepG.apply, hr]
theorem op_stuck (ho : ops[i]? = some o) (hw : Region.wanted o (yielded ops t) = true) {s : String} (hr : (execOp (Act.mk t []).eval o).run P w = .halt (.stuck s) w') :
    ∃ o w', step P (lone (fx fn t (.inRegion ops (i :: rest) :: k) .run) cs w) = .ended o w' := by
  refine ⟨.stuck s ((fx fn t (.inRegion ops (i :: rest) :: k) .run).pos P), w', step_lone_ended ?_⟩
  rw [op_bare ho hw]
  simp [stepG.apply, hr]
/-- What comes of a variable that waits. -/
def earlyTo (P : Program) (g : Nat) (w : World) : Option World :=
  if P.follows .staticDataAhead then none else
  match w.heap[g]? with
  | some (.pending c elem) => some { w with heap := w.heap.setIfInBounds g (.cells c elem) }
  | _ => none
theorem early_is (h : P.stepOf g0 = none) (fr : Frame) : (∃ w1, earlyTo P g0 w = some w1 ∧ early P fr cs none g0 w = .go { frame := fr, callers := cs, status := .running, dying := none } w1) ∨ (earlyTo P g0 w = none ∧ ∃ o w', early P fr cs none g0 w = .ended o w') := by
  unfold early earlyTo
  simp only [h]
  cases P.follows .staticDataAhead with
  | true => exact .inr ⟨by simp, _, _, by simp; exact ⟨rfl, rfl⟩⟩
  | false =>
    simp only [Bool.not_false, if_true, Bool.false_eq_true, if_false]
    cases e : w.heap[g0]? with
    | none => exact .inr ⟨rfl, _, _, rfl⟩
    | some ob => cases ob <;> first | exact .inl ⟨_, rfl, rfl⟩ | exact .inr ⟨rfl, _, _, rfl⟩
theorem op_init (ho : ops[i]? = some o) (hw : Region.wanted o (yielded ops t) = true) {g : Nat} (he : P.stepOf g = none) (hr : (execOp (Act.mk t []).eval o).run P w = .halt (.unsupported (.initOrder g)) w') :
    (∃ w1, earlyTo P g w' = some w1 ∧ step P (lone (fx fn t (.inRegion ops (i :: rest) :: k) .run) cs w) = .next (lone (fx fn t (.inRegion ops (i :: rest) :: k) .run) cs w1)) ∨ (earlyTo P g w' = none ∧ ∃ o w', step P (lone (fx fn t (.inRegion ops (i :: rest) :: k) .run) cs w) = .ended o w') := by
  have hb : (stepG P true { frame := fx fn t (.inRegion ops (i :: rest) :: k) .run, callers := cs, status := .running, dying := none } w).bare = (early P (fx fn t (.inRegion ops (i :: rest) :: k) .run) cs none g w').bare := by
    rw [op_bare ho hw]
    simp [stepG.apply, hr]
  rcases early_is (w := w') (cs := cs) he (fx fn t (.inRegion ops (i :: rest) :: k) .run) with ⟨w1, e, q⟩ | ⟨e, o', w2, q⟩
  · rw [q] at hb
    exact .inl ⟨w1, e, step_lone_go hb⟩
  · rw [q] at hb
    exact .inr ⟨e, o', w2, step_lone_ended hb⟩
theorem op_unsup (ho : ops[i]? = some o) (hw : Region.wanted o (yielded ops t) = true) {u : Unsupported} (hu : ∀ g, u ≠ .initOrder g) (hr : (execOp (Act.mk t []).eval o).run P w = .halt (.unsupported u) w') :
    ∃ o w', step P (lone (fx fn t (.inRegion ops (i :: rest) :: k) .run) cs w) = .ended o w' := by
  refine ⟨.unsupported u ((fx fn t (.inRegion ops (i :: rest) :: k) .run).pos P), w', step_lone_ended ?_⟩
  rw [op_bare ho hw]
  cases u <;> first | exact absurd rfl (hu _) | simp [stepG.apply, hr]
end
end Go.Proofs.YtkocbfikcjgigaaGreat

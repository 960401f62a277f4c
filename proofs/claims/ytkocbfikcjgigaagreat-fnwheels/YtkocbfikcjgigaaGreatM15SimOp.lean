import Derived.Calls
import Derived.Orders
import Derived.DyingRun
import Derived.Test.YtkocbfikcjgigaaGreatRows
import Derived.Shelf.Abstract
/-
  Two runs that part in one function value alone: where one function value enters just what the other one enters, a call that hands the one on does what a call that hands the other on does. By the verifier.
-/
namespace Go.Proofs.YtkocbfikcjgigaaGreat
open Go

/-- A frame without deferred calls. -/
def fx (fn : FuncId) (t : Array Value) (todo : List Item) (m : FrameMode) : Frame := { fn := fn, tmps := t, todo := todo, defers := [], mode := m, kind := .normal }

def cleanX (F : List Tmp) : Operand → Bool
  | .tmp t => !F.contains t
  | _ => true
def heldX (F : List Tmp) : Operand → Bool
  | .tmp t => F.contains t
  | _ => false
def dstOk (F : List Tmp) (o : Oper) : Bool :=
  match o.dst with
  | some d => !F.contains d
  | none => true
def dstIn (F : List Tmp) (o : Oper) : Bool :=
  match o.dst with
  | some d => F.contains d
  | none => true
def argsOk (F G : List Tmp) : List Operand → Nat → Bool
  | [], _ => true
  | x :: r, i => (if G.contains i then heldX F x else cleanX F x) && argsOk F G r (i + 1)
def plainOp : Op → Bool
  | .pick .. | .alloc _ | .box .. | .buildSlice .. | .load .. | .store .. | .nilCheck _ | .binOp .. | .unOp .. | .convert .. | .fieldAddr .. | .index .. | .indexAddr .. | .extract .. => true
  | _ => false
def okCall (T : FuncId → Option (List Tmp)) (F : List Tmp) (c : Call) : Bool :=
  match c.callee with
  | .builtin .len => c.args.toList.all (cleanX F)
  | .value (.func g) => (match T g with | some G => argsOk F G c.args.toList 0 | none => false)
  | .value (.tmp s) => F.contains s && c.args.size == 2 && c.args.toList.all (cleanX F)
  | _ => false
def okOp (T : FuncId → Option (List Tmp)) (F : List Tmp) (o : Oper) : Bool :=
  match o.op with
  | .move x => (cleanX F x && dstOk F o) || (heldX F x && dstIn F o)
  | .assign x => (cleanX F x && dstOk F o) || (heldX F x && dstIn F o)
  | .call c => dstOk F o && okCall T F c
  | op => plainOp op && dstOk F o && op.operands.toList.all (cleanX F)
def okCode (T : FuncId → Option (List Tmp)) (F : List Tmp) : Code → Bool
  | .skip => true
  | .label _ => true
  | .exit _ => true
  | .ret => true
  | .region _ ops _ => ops.toList.all (okOp T F)
  | .seq a b => okCode T F a && okCode T F b
  | .cond c a b => cleanX F c && okCode T F a && okCode T F b
  | .block _ c => okCode T F c
  | .loop c => okCode T F c
  | _ => false
def okItem (T : FuncId → Option (List Tmp)) (F : List Tmp) : Item → Bool
  | .code c => okCode T F c
  | .inBlock _ => true
  | .inLoop c => okCode T F c
  | .inRegion ops _ => ops.toList.all (okOp T F)
  | _ => false
def resOk (G : List Tmp) : ResultVar → Bool
  | .tmp t => !G.contains t
  | .cell t _ => !G.contains t
def okFn (P : Program) (T : FuncId → Option (List Tmp)) (g : FuncId) (G : List Tmp) : Bool :=
  match P.funcs[g]? with
  | some fn => (match fn.body with | some c => okCode T G c | none => false) && fn.name != "runtime.NumGoroutine" && fn.results.toList.all (resOk G)
  | none => false

section
variable (v1 v2 : Value)
/-- Slots that part in the function value alone. -/
structure TmpR (F : List Tmp) (t t' : Array Value) : Prop where
  size : t.size = t'.size
  off : ∀ i : Nat, i ∉ F → t[i]? = t'[i]?
  on : ∀ i : Nat, i ∈ F → (t[i]? = t'[i]? ∧ ∀ x, t[i]? = some x → x = undef) ∨ (t[i]? = some v1 ∧ t'[i]? = some v2)
end
variable {v1 v2 : Value} {F : List Tmp} {t t' : Array Value}

theorem not_cont {d : Tmp} (h : (!F.contains d) = true) : d ∉ F := by
  intro q
  have : F.contains d = true := List.contains_iff_mem.2 q
  rw [this] at h
  cases h
theorem is_cont {d : Tmp} (h : F.contains d = true) : d ∈ F := List.contains_iff_mem.1 h
theorem TmpR.set (h : TmpR v1 v2 F t t') {d : Tmp} (hd : d ∉ F) (v : Value) : TmpR v1 v2 F (t.setIfInBounds d v) (t'.setIfInBounds d v) := by
  refine ⟨by simp [h.size], fun i hi => ?_, fun i hi => ?_⟩
  · rw [Array.getElem?_setIfInBounds, Array.getElem?_setIfInBounds, h.size, h.off i hi]
  · have hne : d ≠ i := fun e => hd (e ▸ hi)
    rw [Array.getElem?_setIfInBounds_ne hne, Array.getElem?_setIfInBounds_ne hne]
    exact h.on i hi
theorem TmpR.setU (h : TmpR v1 v2 F t t') (d : Tmp) : TmpR v1 v2 F (t.setIfInBounds d undef) (t'.setIfInBounds d undef) := by
  by_cases hd : d ∈ F
  · refine ⟨by simp [h.size], fun i hi => ?_, fun i hi => ?_⟩
    · have hne : d ≠ i := fun e => hi (e ▸ hd)
      rw [Array.getElem?_setIfInBounds_ne hne, Array.getElem?_setIfInBounds_ne hne]
      exact h.off i hi
    · by_cases e : d = i
      · subst e
        left
        refine ⟨by rw [Array.getElem?_setIfInBounds, Array.getElem?_setIfInBounds, h.size]; simp, fun x hx => ?_⟩
        rw [Array.getElem?_setIfInBounds, h.size] at hx
        by_cases hl : d < t'.size
        · simpa [hl] using hx.symm
        · simp [hl] at hx
      · rw [Array.getElem?_setIfInBounds_ne e, Array.getElem?_setIfInBounds_ne e]
        exact h.on i hi
  · exact h.set hd _
theorem TmpR.setF (h : TmpR v1 v2 F t t') {d : Tmp} (hd : d ∈ F) : TmpR v1 v2 F (t.setIfInBounds d v1) (t'.setIfInBounds d v2) := by
  refine ⟨by simp [h.size], fun i hi => ?_, fun i hi => ?_⟩
  · have hne : d ≠ i := fun e => hi (e ▸ hd)
    rw [Array.getElem?_setIfInBounds_ne hne, Array.getElem?_setIfInBounds_ne hne]
    exact h.off i hi
  · by_cases e : d = i
    · subst e
      rw [Array.getElem?_setIfInBounds, Array.getElem?_setIfInBounds, h.size]
      simp only [if_true]
      by_cases hl : d < t'.size
      · right
        simp [hl]
      · left
        simp [hl]
    · rw [Array.getElem?_setIfInBounds_ne e, Array.getElem?_setIfInBounds_ne e]
      exact h.on i hi
/-- What a slot's place is given. -/
def putT (t : Array Value) (dst : Option Tmp) (v : Value) : Array Value :=
  match dst with
  | some d => t.setIfInBounds d v
  | none => t
theorem TmpR.putU (h : TmpR v1 v2 F t t') (dst : Option Tmp) : TmpR v1 v2 F (putT t dst undef) (putT t' dst undef) := by
  cases dst with
  | none => exact h
  | some d => exact h.setU d
theorem TmpR.put (h : TmpR v1 v2 F t t') {o : Oper} (hd : dstOk F o = true) (v : Value) : TmpR v1 v2 F (putT t o.dst v) (putT t' o.dst v) := by
  unfold dstOk at hd
  cases e : o.dst with
  | none => exact h
  | some d => rw [e] at hd; exact h.set (not_cont hd) v
theorem TmpR.putF (h : TmpR v1 v2 F t t') {o : Oper} (hd : dstIn F o = true) : TmpR v1 v2 F (putT t o.dst v1) (putT t' o.dst v2) := by
  unfold dstIn at hd
  cases e : o.dst with
  | none => exact h
  | some d => rw [e] at hd; exact h.setF (is_cont hd)
theorem TmpR.getD (h : TmpR v1 v2 F t t') {i : Nat} (hi : i ∉ F) : t.getD i undef = t'.getD i undef := by
  rw [Array.getD_eq_getD_getElem?, Array.getD_eq_getD_getElem?, h.off i hi]
theorem TmpR.eval (h : TmpR v1 v2 F t t') {x : Operand} (hx : cleanX F x = true) : (Act.mk t []).eval x = (Act.mk t' []).eval x := by
  cases x with
  | tmp i => exact h.getD (not_cont hx)
  | _ => rfl
theorem TmpR.held (h : TmpR v1 v2 F t t') {x : Operand} (hx : heldX F x = true) : ((Act.mk t []).eval x = undef ∧ (Act.mk t' []).eval x = undef) ∨ ((Act.mk t []).eval x = v1 ∧ (Act.mk t' []).eval x = v2) := by
  cases x with
  | tmp i =>
    show (t.getD i undef = undef ∧ t'.getD i undef = undef) ∨ (t.getD i undef = v1 ∧ t'.getD i undef = v2)
    rw [Array.getD_eq_getD_getElem?, Array.getD_eq_getD_getElem?]
    rcases h.on i (is_cont hx) with ⟨e, hu⟩ | ⟨e1, e2⟩
    · left
      rw [← e]
      cases q : t[i]? with
      | none => exact ⟨rfl, rfl⟩
      | some y => have := hu y q; subst this; exact ⟨rfl, rfl⟩
    · right
      rw [e1, e2]
      exact ⟨rfl, rfl⟩
  | _ => cases hx
theorem TmpR.yielded (h : TmpR v1 v2 F t t') (n1 : ∀ b, v1 ≠ .bool b) (n2 : ∀ b, v2 ≠ .bool b) (ops : Array Oper) (j : Nat) : Go.yielded ops t j = Go.yielded ops t' j := by
  unfold Go.yielded
  cases e : (ops[j]?).bind (·.dst) with
  | none => rfl
  | some d =>
    show (match t[d]? with | some (.bool b) => some b | _ => none) = (match t'[d]? with | some (.bool b) => some b | _ => none)
    by_cases hd : d ∈ F
    · rcases h.on d hd with ⟨q, _⟩ | ⟨q1, q2⟩
      · rw [q]
      · rw [q1, q2]
        have a1 : (match some v1 with | some (.bool b) => some b | _ => none : Option Bool) = none := by
          split
          · next b hb => exact absurd (Option.some.inj hb) (n1 b)
          · rfl
        have a2 : (match some v2 with | some (.bool b) => some b | _ => none : Option Bool) = none := by
          split
          · next b hb => exact absurd (Option.some.inj hb) (n2 b)
          · rfl
        rw [a1, a2]
    · rw [h.off d hd]
theorem TmpR.wanted (h : TmpR v1 v2 F t t') (n1 : ∀ b, v1 ≠ .bool b) (n2 : ∀ b, v2 ≠ .bool b) (ops : Array Oper) (o : Oper) : Region.wanted o (Go.yielded ops t) = Region.wanted o (Go.yielded ops t') := by
  have : Go.yielded ops t = Go.yielded ops t' := funext fun j => h.yielded n1 n2 ops j
  rw [this]
end Go.Proofs.YtkocbfikcjgigaaGreat

/-
  Runs that come to no good end: a machine that waits, that dies, or that falls back into a caller that can't go on. By the verifier.
-/
namespace Go.Proofs.YtkocbfikcjgigaaGreat
open Go

/-- A caller that can't go on, whatever comes back. -/
def c0 (P : Program) : Frame := { fn := P.funcs.size, tmps := #[], todo := [.code (.refuse "")], defers := [{ target := .nil, args := #[] }], mode := .run, kind := .normal }

/-- No run from here comes to a frame that this caller has called. -/
def Dead (P : Program) (m : Machine) : Prop := ∀ n fr w, runN P n m ≠ .next (lone fr [c0 P] w)

variable {P : Program} {m m1 : Machine} {w w' : World} {o : Outcome}
theorem dead_ended (h : step P m = .ended o w) (hn : ∀ fr w, m ≠ lone fr [c0 P] w) : Dead P m := by
  intro n fr wx q
  cases n with
  | zero => exact hn fr wx (by simpa [runN] using q)
  | succ n => simp [runN, h] at q
theorem lone_ne {fr fr' : Frame} {cs : List Frame} (hc : cs ≠ [c0 P]) : lone fr cs w ≠ lone fr' [c0 P] w' := by
  intro q
  simp [lone] at q
  exact hc q.2.2
theorem dead_c0 (v : Value) : Dead P (lone ((c0 P).finish v) [] w) := by
  have : ∃ o' w', (stepG P true { frame := (c0 P).finish v, callers := [], status := .running, dying := none } w).bare = .ended o' w' := by
    simp [stepG, stepG.exec, c0, Frame.finish]
  obtain ⟨o', w', h⟩ := this
  exact dead_ended (step_lone_ended h) fun _ _ => lone_ne (by simp)
theorem dead_c0_raise (ch : List PanicEntry) : Dead P (lone ((c0 P).raise ch) [] w) := by
  have : ∃ o' w', (stepG P true { frame := (c0 P).raise ch, callers := [], status := .running, dying := none } w).bare = .ended o' w' := by
    simp [stepG, unwind, callDeferred, c0, Frame.raise]
  obtain ⟨o', w', h⟩ := this
  exact dead_ended (step_lone_ended h) fun _ _ => lone_ne (by simp)

/-- One goroutine that can't run. -/
def rests (fr : Frame) (cs : List Frame) (st : GoStatus) (dy : Option Dying) (w : World) : Machine :=
  { world := w, gs := #[{ frame := fr, callers := cs, status := st, dying := dy }], rest := { timers := #[], alone := none, slice := none } }
theorem rests_ne {fr fr' : Frame} {cs : List Frame} {st : GoStatus} {dy : Option Dying} (h : st ≠ .running ∨ dy ≠ none) : rests fr cs st dy w ≠ lone fr' [c0 P] w' := by
  intro q
  simp [rests, lone] at q
  rcases h with h | h
  · exact h q.2.2.2.1
  · exact h q.2.2.2.2
theorem dead_blocked (fr : Frame) (cs : List Frame) (dy : Option Dying) : Dead P (rests fr cs .blocked dy w) := by
  have : ∃ o' w', step P (rests fr cs .blocked dy w) = .ended o' w' := by
    obtain ⟨o', w', h, _⟩ := endWith_ended w 2 (bytes "fatal error: all goroutines are asleep - deadlock!\n") (.fatal "all goroutines are asleep - deadlock!")
    refine ⟨o', w', ?_⟩
    simp [step, stepT, move, ask, askOn, rests, runnable_eq, due, ahead, Goroutine.canRun, List.range_succ, pure]
    rw [h]
  obtain ⟨o', w', h⟩ := this
  exact dead_ended h fun _ _ => rests_ne (.inl (by simp))
theorem dead_waiting (fr : Frame) (cs : List Frame) (dy : Option Dying) : Dead P (rests fr cs .waiting dy w) := by
  have h : step P (rests fr cs .waiting dy w) = .next (rests fr cs .waiting dy w) := by
    simp [step, stepT, move, ask, askOn, rests, runnable_eq, due, ahead, Goroutine.canRun, List.range_succ, pure]
  intro n fr' w'
  induction n with
  | zero =>
    intro q
    have q' : rests fr cs .waiting dy w = lone fr' [c0 P] w' := by simpa [runN] using q
    exact rests_ne (.inl (by simp)) q'
  | succ n ih =>
    intro q
    simp only [runN, h] at q
    exact ih q
theorem step_dies_go {fr fr' : Frame} {cs cs' : List Frame} {d d' : Dying} {st : GoStatus}
    (h : (stepG P true { frame := fr, callers := cs, status := .running, dying := some d } w).bare = .go { frame := fr', callers := cs', status := st, dying := some d' } w') :
    step P (rests fr cs .running (some d) w) = .next (rests fr' cs' st (some d') w') := by
  generalize hs : stepG P true { frame := fr, callers := cs, status := .running, dying := some d } w = s at h
  cases s <;> simp at h
  obtain ⟨rfl, rfl⟩ := h
  have hm : move P (rests fr cs .running (some d) w) = .goroutine (rests fr cs .running (some d) w) 0 := move_loneD
  rw [step, stepT, hm]
  simp [runT, rests, Array.swapAt!, hs]
theorem step_dies_ended {fr : Frame} {cs : List Frame} {d : Dying} {o : Outcome}
    (h : (stepG P true { frame := fr, callers := cs, status := .running, dying := some d } w).bare = .ended o w') :
    step P (rests fr cs .running (some d) w) = .ended o w' := step_loneD_ended h
theorem writeOn_is (fr : Frame) (d : Dying) (f : Fatal) : (∃ o w', (writeOn P fr d f w).bare = .ended o w') ∨ ∃ f' w', (writeOn P fr d f w).bare = .go { frame := fr, callers := [], status := .running, dying := some { d with fatal := some f' } } w' ∨ (writeOn P fr d f w).bare = .go { frame := fr, callers := [], status := .blocked, dying := some { d with fatal := some f' } } w' := by
  unfold writeOn
  cases f.pieces with
  | nil => exact .inl ⟨_, _, rfl⟩
  | cons piece rest =>
    dsimp only
    split
    · exact .inr ⟨_, _, .inl rfl⟩
    · exact .inr ⟨_, _, .inr rfl⟩
    · exact .inl ⟨_, _, rfl⟩
    · exact .inl ⟨_, _, rfl⟩
theorem dead_dies (n : Nat) : ∀ (fr : Frame) (d : Dying) (f : Fatal) (w : World), d.calling = false → d.fatal = some f → ∀ fr' w', runN P n (rests fr [] .running (some d) w) ≠ .next (lone fr' [c0 P] w') := by
  induction n with
  | zero =>
    intro fr d f w _ _ fr' w' q
    have q' : rests fr [] .running (some d) w = lone fr' [c0 P] w' := by simpa [runN] using q
    exact rests_ne (.inr (by simp)) q'
  | succ n ih =>
    intro fr d f w hc hf fr' w' q
    have hs : stepG P true { frame := fr, callers := [], status := .running, dying := some d } w = writeOn P fr d f w := by
      obtain ⟨todo, texts, calling, pending, re, hand, fatal⟩ := d
      simp only at hc hf
      subst hc hf
      simp [stepG, die]
    rcases writeOn_is (P := P) (w := w) fr d f with ⟨o, w1, h⟩ | ⟨f', w1, h | h⟩
    · have := step_dies_ended (P := P) (fr := fr) (cs := []) (d := d) (by rw [hs]; exact h)
      simp [runN, this] at q
    · have := step_dies_go (P := P) (fr := fr) (cs := []) (d := d) (by rw [hs]; exact h)
      simp only [runN, this] at q
      exact ih fr { d with fatal := some f' } f' w1 hc rfl fr' w' q
    · have := step_dies_go (P := P) (fr := fr) (cs := []) (d := d) (by rw [hs]; exact h)
      simp only [runN, this] at q
      exact dead_blocked _ _ _ n fr' w' q
end Go.Proofs.YtkocbfikcjgigaaGreat

/-
  Two runs that part in one function value alone: what one operation does. By the verifier.
-/
namespace Go.Proofs.YtkocbfikcjgigaaGreat
open Go Go.Shelf

/-- What an operation that calls nothing comes to. -/
def Shape : Result Next → Prop
  | .ok (.value _) _ => True
  | .ok .skip _ => True
  | .halt _ _ => True
  | _ => False
theorem shape_bind {α : Type} {P : Program} {s : Sem α} {f : α → Sem Next} (h : ∀ x w, Shape ((f x).run P w)) (w : World) : Shape ((s >>= f).run P w) := by
  rw [Sem.run_bind]
  cases s.run P w with
  | ok a w1 => exact h a w1
  | halt e w1 => trivial
theorem shape_value {P : Program} (v : Value) (w : World) : Shape ((pure (Next.value v) : Sem Next).run P w) := trivial
theorem shape_skip {P : Program} (w : World) : Shape ((pure Next.skip : Sem Next).run P w) := trivial
theorem shape_halt {P : Program} (h : Halt) (w : World) : Shape ((Sem.halt h : Sem Next).run P w) := trivial
theorem shape_deref {P : Program} (w : World) : Shape ((runtimePanic .nilDeref : Sem Next).run P w) := by
  unfold runtimePanic
  refine shape_bind (fun _ _ => ?_) w
  exact shape_halt _ _
theorem shape_plain {P : Program} {o : Oper} (h : plainOp o.op = true) (ρ : Operand → Value) (w : World) : Shape ((execOp ρ o).run P w) := by
  obtain ⟨dst, op, type, pos, after, guard⟩ := o
  cases op <;> simp only [plainOp] at h <;> first | (cases h; done) | skip
  all_goals simp only [execOp]
  case nilCheck x =>
    split
    · exact shape_deref w
    · exact shape_deref w
    · exact shape_deref w
    · split
      · exact shape_deref w
      · refine shape_bind (fun _ w => shape_bind (fun _ w => ?_) w) w
        split
        · exact shape_halt _ _
        · exact shape_value _ _
      · exact shape_value _ _
    · exact shape_value _ _
  all_goals (refine shape_bind (fun _ _ => ?_) w; first | exact shape_value _ _ | exact shape_skip _)
theorem shape_len {P : Program} {o : Oper} {c : Call} (ho : o.op = .call c) (hc : c.callee = .builtin .len) (ρ : Operand → Value) (w : World) : Shape ((execOp ρ o).run P w) := by
  simp only [execOp, ho, resolve, hc]
  rw [Sem.run_bind]
  simp only [Sem.run_pure, Result.andThen_ok, invoke, builtin]
  exact shape_bind (fun _ _ => shape_value _ _) w
theorem callFunc_ok {P : Program} {T : FuncId → Option (List Tmp)} {g : FuncId} {G : List Tmp} (h : okFn P T g G = true) (args : Array Value) (w : World) : (callFunc g args).run P w = .ok (.enter g args) w := by
  unfold okFn at h
  cases hf : P.funcs[g]? with
  | none => rw [hf] at h; cases h
  | some fn =>
    rw [hf] at h
    simp only [Bool.and_eq_true, bne_iff_ne, ne_eq] at h
    cases hb : fn.body with
    | none => rw [hb] at h; exact absurd h.1.1 (by simp)
    | some c =>
      have hn : (fn.name == "runtime.NumGoroutine") = false := by simpa using h.1.2
      exact enters_of hf hn hb args w
end Go.Proofs.YtkocbfikcjgigaaGreat

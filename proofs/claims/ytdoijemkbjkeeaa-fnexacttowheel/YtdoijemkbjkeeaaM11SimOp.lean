import Derived.Calls
import Derived.DyingRun
import Derived.Test.YtdoijemkbjkeeaaRows
import Derived.Test.YtdoijemkbjkeeaaSim
import Derived.Shelf.Abstract
/-
  Runs that come to no good end: a machine that waits, that dies, or that falls back into a caller that can't go on. By the verifier.
-/
namespace Go.Proofs.Ytdoijemkbjkeeaa
open Go

/-- A caller that can't go on, whatever comes back. -/
def c0 (P : Program) : Frame := { fn := P.funcs.size, tmps := #[], todo := [.code (.refuse "")], defers := [{ target := .nil, args := #[] }], mode := .run, kind := .normal }

/-- No run from here comes to a frame that this caller has called. -/
def Dead (P : Program) (m : Machine) : Prop := ∀ n fr w, runN P n m ≠ .next (lone fr [c0 P] w)

variable {P : Program} {m m1 : Machine} {w w' : World} {o : Outcome}
theorem dead_ended (h : step P m = .ended o w) (hn : ∀ fr w, m ≠ lone fr [c0 P] w) : Dead P m := by
  intro n fr wx q
  cases n with
  | zero => exact hn fr wx (by simpa [runN] using q)
  | succ n => simp [runN, h] at q
theorem lone_ne {fr fr' : Frame} {cs : List Frame} (hc : cs ≠ [c0 P]) : lone fr cs w ≠ lone fr' [c0 P] w' := by
  intro q
  simp [lone] at q
  exact hc q.2.2
theorem dead_c0 (v : Value) : Dead P (lone ((c0 P).finish v) [] w) := by
  have : ∃ o' w', (stepG P true { frame := (c0 P).finish v, callers := [], status := .running, dying := none } w).bare = .ended o' w' := by
    simp [stepG, stepG.exec, c0, Frame.finish]
  obtain ⟨o', w', h⟩ := this
  exact dead_ended (step_lone_ended h) fun _ _ => lone_ne (by simp)
theorem dead_c0_raise (ch : List PanicEntry) : Dead P (lone ((c0 P).raise ch) [] w) := by
  have : ∃ o' w', (stepG P true { frame := (c0 P).raise ch, callers := [], status := .running, dying := none } w).bare = .ended o' w' := by
    simp [stepG, unwind, callDeferred, c0, Frame.raise]
  obtain ⟨o', w', h⟩ := this
  exact dead_ended (step_lone_ended h) fun _ _ => lone_ne (by simp)

/-- One goroutine that can't run. -/
def rests (fr : Frame) (cs : List Frame) (st : GoStatus) (dy : Option Dying) (w : World) : Machine :=
  { world := w, gs := #[{ frame := fr, callers := cs, status := st, dying := dy }], rest := { timers := #[], alone := none, slice := none } }
theorem rests_ne {fr fr' : Frame} {cs : List Frame} {st : GoStatus} {dy : Option Dying} (h : st ≠ .running ∨ dy ≠ none) : rests fr cs st dy w ≠ lone fr' [c0 P] w' := by
  intro q
  simp [rests, lone] at q
  rcases h with h | h
  · exact h q.2.2.2.1
  · exact h q.2.2.2.2
theorem dead_blocked (fr : Frame) (cs : List Frame) (dy : Option Dying) : Dead P (rests fr cs .blocked dy w) := by
  have : ∃ o' w', step P (rests fr cs .blocked dy w) = .ended o' w' := by
    obtain ⟨o', w', h, _⟩ := endWith_ended w 2 (bytes "fatal error: all goroutines are asleep - deadlock!\n") (.fatal "all goroutines are asleep - deadlock!")
    refine ⟨o', w', ?_⟩
    simp [step, stepT, move, ask, askOn, rests, runnable_eq, due, ahead, Goroutine.canRun, List.range_succ, pure]
    rw [h]
  obtain ⟨o', w', h⟩ := this
  exact dead_ended h fun _ _ => rests_ne (.inl (by simp))
theorem dead_waiting (fr : Frame) (cs : List Frame) (dy : Option Dying) : Dead P (rests fr cs .waiting dy w) := by
  have h : step P (rests fr cs .waiting dy w) = .next (rests fr cs .waiting dy w) := by
    simp [step, stepT, move, ask, askOn, rests, runnable_eq, due, ahead, Goroutine.canRun, List.range_succ, pure]
  intro n fr' w'
  induction n with
  | zero =>
    intro q
    have q' : rests fr cs .waiting dy w = lone fr' [c0 P] w' := by simpa [runN] using q
    exact rests_ne (.inl (by simp)) q'
  | succ n ih =>
    intro q
    simp only [runN, h] at q
    exact ih q
theorem step_dies_go {fr fr' : Frame} {cs cs' : List Frame} {d d' : Dying} {st : GoStatus}
    (h : (stepG P true { frame := fr, callers := cs, status := .running, dying := some d } w).bare = .go { frame := fr', callers := cs', status := st, dying := some d' } w') :
    step P (rests fr cs .running (some d) w) = .next (rests fr' cs' st (some d') w') := by
  generalize hs : stepG P true { frame := fr, callers := cs, status := .running, dying := some d } w = s at h
  cases s <;> simp at h
  obtain ⟨rfl, rfl⟩ := h
  have hm : move P (rests fr cs .running (some d) w) = .goroutine (rests fr cs .running (some d) w) 0 := move_loneD
  rw [step, stepT, hm]
  simp [runT, rests, Array.swapAt!, hs]
theorem step_dies_ended {fr : Frame} {cs : List Frame} {d : Dying} {o : Outcome}
    (h : (stepG P true { frame := fr, callers := cs, status := .running, dying := some d } w).bare = .ended o w') :
    step P (rests fr cs .running (some d) w) = .ended o w' := step_loneD_ended h
theorem writeOn_is (fr : Frame) (d : Dying) (f : Fatal) : (∃ o w', (writeOn P fr d f w).bare = .ended o w') ∨ ∃ f' w', (writeOn P fr d f w).bare = .go { frame := fr, callers := [], status := .running, dying := some { d with fatal := some f' } } w' ∨ (writeOn P fr d f w).bare = .go { frame := fr, callers := [], status := .blocked, dying := some { d with fatal := some f' } } w' := by
  unfold writeOn
  cases f.pieces with
  | nil => exact .inl ⟨_, _, rfl⟩
  | cons piece rest =>
    dsimp only
    split
    · exact .inr ⟨_, _, .inl rfl⟩
    · exact .inr ⟨_, _, .inr rfl⟩
    · exact .inl ⟨_, _, rfl⟩
    · exact .inl ⟨_, _, rfl⟩
theorem dead_dies (n : Nat) : ∀ (fr : Frame) (d : Dying) (f : Fatal) (w : World), d.calling = false → d.fatal = some f → ∀ fr' w', runN P n (rests fr [] .running (some d) w) ≠ .next (lone fr' [c0 P] w') := by
  induction n with
  | zero =>
    intro fr d f w _ _ fr' w' q
    have q' : rests fr [] .running (some d) w = lone fr' [c0 P] w' := by simpa [runN] using q
    exact rests_ne (.inr (by simp)) q'
  | succ n ih =>
    intro fr d f w hc hf fr' w' q
    have hs : stepG P true { frame := fr, callers := [], status := .running, dying := some d } w = writeOn P fr d f w := by
      obtain ⟨todo, texts, calling, pending, re, hand, fatal⟩ := d
      simp only at hc hf
      subst hc hf
      simp [stepG, die]
    rcases writeOn_is (P := P) (w := w) fr d f with ⟨o, w1, h⟩ | ⟨f', w1, h | h⟩
    · have := step_dies_ended (P := P) (fr := fr) (cs := []) (d := d) (by rw [hs]; exact h)
      simp [runN, this] at q
    · have := step_dies_go (P := P) (fr := fr) (cs := []) (d := d) (by rw [hs]; exact h)
      simp only [runN, this] at q
      exact ih fr { d with fatal := some f' } f' w1 hc rfl fr' w' q
    · have := step_dies_go (P := P) (fr := fr) (cs := []) (d := d) (by rw [hs]; exact h)
      simp only [runN, this] at q
      exact dead_blocked _ _ _ n fr' w' q
end Go.Proofs.Ytdoijemkbjkeeaa

/-
  Two runs that part in one function value alone: what one operation does. By the verifier.
-/
namespace Go.Proofs.Ytdoijemkbjkeeaa
open Go Go.Shelf

/-- What an operation that calls nothing comes to. -/
def Shape : Result Next → Prop
  | .ok (.value _) _ => True
  | .ok .skip _ => True
  | .halt _ _ => True
  | _ => False
theorem shape_bind {α : Type} {P : Program} {s : Sem α} {f : α → Sem Next} (h : ∀ x w, Shape ((f x).run P w)) (w : World) : Shape ((s >>= f).run P w) := by
  rw [Sem.run_bind]
  cases s.run P w with
  | ok a w1 => exact h a w1
  | halt e w1 => trivial
theorem shape_value {P : Program} (v : Value) (w : World) : Shape ((pure (Next.value v) : Sem Next).run P w) := trivial
theorem shape_skip {P : Program} (w : World) : Shape ((pure Next.skip : Sem Next).run P w) := trivial
theorem shape_halt {P : Program} (h : Halt) (w : World) : Shape ((Sem.halt h : Sem Next).run P w) := trivial
theorem shape_deref {P : Program} (w : World) : Shape ((runtimePanic .nilDeref : Sem Next).run P w) := by
  unfold runtimePanic
  refine shape_bind (fun _ _ => ?_) w
  exact shape_halt _ _
theorem shape_plain {P : Program} {o : Oper} (h : plainOp o.op = true) (ρ : Operand → Value) (w : World) : Shape ((execOp ρ o).run P w) := by
  obtain ⟨dst, op, type, pos, after, guard⟩ := o
  cases op <;> simp only [plainOp] at h <;> first | (cases h; done) | skip
  all_goals simp only [execOp]
  case nilCheck x =>
    split
    · exact shape_deref w
    · exact shape_deref w
    · exact shape_deref w
    · split
      · exact shape_deref w
      · refine shape_bind (fun _ w => shape_bind (fun _ w => ?_) w) w
        split
        · exact shape_halt _ _
        · exact shape_value _ _
      · exact shape_value _ _
    · exact shape_value _ _
  all_goals (refine shape_bind (fun _ _ => ?_) w; first | exact shape_value _ _ | exact shape_skip _)
theorem shape_len {P : Program} {o : Oper} {c : Call} (ho : o.op = .call c) (hc : c.callee = .builtin .len) (ρ : Operand → Value) (w : World) : Shape ((execOp ρ o).run P w) := by
  simp only [execOp, ho, resolve, hc]
  rw [Sem.run_bind]
  simp only [Sem.run_pure, Result.andThen_ok, invoke, builtin]
  exact shape_bind (fun _ _ => shape_value _ _) w
theorem callFunc_ok {P : Program} {T : FuncId → Option (List Tmp)} {g : FuncId} {G : List Tmp} (h : okFn P T g G = true) (args : Array Value) (w : World) : (callFunc g args).run P w = .ok (.enter g args) w := by
  unfold okFn at h
  cases hf : P.funcs[g]? with
  | none => rw [hf] at h; cases h
  | some fn =>
    rw [hf] at h
    simp only [Bool.and_eq_true, bne_iff_ne, ne_eq] at h
    cases hb : fn.body with
    | none => rw [hb] at h; exact absurd h.1.1 (by simp)
    | some c =>
      have hn : (fn.name == "runtime.NumGoroutine") = false := by simpa using h.1.2
      exact enters_of hf hn hb args w
end Go.Proofs.Ytdoijemkbjkeeaa

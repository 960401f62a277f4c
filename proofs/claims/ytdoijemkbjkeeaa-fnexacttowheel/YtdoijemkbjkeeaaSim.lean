/-
  Two runs that part in one function value alone: where one function value enters just what the other one enters, a call that hands the one on does what a call that hands the other on does. By the verifier.
-/
import Derived.Calls
import Derived.Orders
import Derived.DyingRun
import Derived.Test.YtdoijemkbjkeeaaRows
namespace Go.Proofs.Ytdoijemkbjkeeaa
open Go

/-- A frame without deferred calls. -/
def fx (fn : FuncId) (t : Array Value) (todo : List Item) (m : FrameMode) : Frame := { fn := fn, tmps := t, todo := todo, defers := [], mode := m, kind := .normal }

def cleanX (F : List Tmp) : Operand → Bool
  | .tmp t => !F.contains t
  | _ => true
def heldX (F : List Tmp) : Operand → Bool
  | .tmp t => F.contains t
  | _ => false
def dstOk (F : List Tmp) (o : Oper) : Bool :=
  match o.dst with
  | some d => !F.contains d
  | none => true
def dstIn (F : List Tmp) (o : Oper) : Bool :=
  match o.dst with
  | some d => F.contains d
  | none => true
def argsOk (F G : List Tmp) : List Operand → Nat → Bool
  | [], _ => true
  | x :: r, i => (if G.contains i then heldX F x else cleanX F x) && argsOk F G r (i + 1)
def plainOp : Op → Bool
  | .pick .. | .alloc _ | .box .. | .buildSlice .. | .load .. | .store .. | .nilCheck _ | .binOp .. | .unOp .. | .convert .. | .fieldAddr .. | .index .. | .indexAddr .. | .extract .. => true
  | _ => false
def okCall (T : FuncId → Option (List Tmp)) (F : List Tmp) (c : Call) : Bool :=
  match c.callee with
  | .builtin .len => c.args.toList.all (cleanX F)
  | .value (.func g) => (match T g with | some G => argsOk F G c.args.toList 0 | none => false)
  | .value (.tmp s) => F.contains s && c.args.size == 2 && c.args.toList.all (cleanX F)
  | _ => false
def okOp (T : FuncId → Option (List Tmp)) (F : List Tmp) (o : Oper) : Bool :=
  match o.op with
  | .move x => (cleanX F x && dstOk F o) || (heldX F x && dstIn F o)
  | .assign x => (cleanX F x && dstOk F o) || (heldX F x && dstIn F o)
  | .call c => dstOk F o && okCall T F c
  | op => plainOp op && dstOk F o && op.operands.toList.all (cleanX F)
def okCode (T : FuncId → Option (List Tmp)) (F : List Tmp) : Code → Bool
  | .skip => true
  | .label _ => true
  | .exit _ => true
  | .ret => true
  | .region _ ops _ => ops.toList.all (okOp T F)
  | .seq a b => okCode T F a && okCode T F b
  | .cond c a b => cleanX F c && okCode T F a && okCode T F b
  | .block _ c => okCode T F c
  | .loop c => okCode T F c
  | _ => false
def okItem (T : FuncId → Option (List Tmp)) (F : List Tmp) : Item → Bool
  | .code c => okCode T F c
  | .inBlock _ => true
  | .inLoop c => okCode T F c
  | .inRegion ops _ => ops.toList.all (okOp T F)
  | _ => false
def resOk (G : List Tmp) : ResultVar → Bool
  | .tmp t => !G.contains t
  | .cell t _ => !G.contains t
def okFn (P : Program) (T : FuncId → Option (List Tmp)) (g : FuncId) (G : List Tmp) : Bool :=
  match P.funcs[g]? with
  | some fn => (match fn.body with | some c => okCode T G c | none => false) && fn.name != "runtime.NumGoroutine" && fn.results.toList.all (resOk G)
  | none => false

section
variable (v1 v2 : Value)
/-- Slots that part in the function value alone. -/
structure TmpR (F : List Tmp) (t t' : Array Value) : Prop where
  size : t.size = t'.size
  off : ∀ i : Nat, i ∉ F → t[i]? = t'[i]?
  on : ∀ i : Nat, i ∈ F → (t[i]? = t'[i]? ∧ ∀ x, t[i]? = some x → x = undef) ∨ (t[i]? = some v1 ∧ t'[i]? = some v2)
end
variable {v1 v2 : Value} {F : List Tmp} {t t' : Array Value}

theorem not_cont {d : Tmp} (h : (!F.contains d) = true) : d ∉ F := by
  intro q
  have : F.contains d = true := List.contains_iff_mem.2 q
  rw [this] at h
  cases h
theorem is_cont {d : Tmp} (h : F.contains d = true) : d ∈ F := List.contains_iff_mem.1 h
theorem TmpR.set (h : TmpR v1 v2 F t t') {d : Tmp} (hd : d ∉ F) (v : Value) : TmpR v1 v2 F (t.setIfInBounds d v) (t'.setIfInBounds d v) := by
  refine ⟨by simp [h.size], fun i hi => ?_, fun i hi => ?_⟩
  · rw [Array.getElem?_setIfInBounds, Array.getElem?_setIfInBounds, h.size, h.off i hi]
  · have hne : d ≠ i := fun e => hd (e ▸ hi)
    rw [Array.getElem?_setIfInBounds_ne hne, Array.getElem?_setIfInBounds_ne hne]
    exact h.on i hi
theorem TmpR.setU (h : TmpR v1 v2 F t t') (d : Tmp) : TmpR v1 v2 F (t.setIfInBounds d undef) (t'.setIfInBounds d undef) := by
  by_cases hd : d ∈ F
  · refine ⟨by simp [h.size], fun i hi => ?_, fun i hi => ?_⟩
    · have hne : d ≠ i := fun e => hi (e ▸ hd)
      rw [Array.getElem?_setIfInBounds_ne hne, Array.getElem?_setIfInBounds_ne hne]
      exact h.off i hi
    · by_cases e : d = i
      · subst e
        left
        refine ⟨by rw [Array.getElem?_setIfInBounds, Array.getElem?_setIfInBounds, h.size]; simp, fun x hx => ?_⟩
        rw [Array.getElem?_setIfInBounds, h.size] at hx
        by_cases hl : d < t'.size
        · simpa [hl] using hx.symm
        · simp [hl] at hx
      · rw [Array.getElem?_setIfInBounds_ne e, Array.getElem?_setIfInBounds_ne e]
        exact h.on i hi
  · exact h.set hd _
theorem TmpR.setF (h : TmpR v1 v2 F t t') {d : Tmp} (hd : d ∈ F) : TmpR v1 v2 F (t.setIfInBounds d v1) (t'.setIfInBounds d v2) := by
  refine ⟨by simp [h.size], fun i hi => ?_, fun i hi => ?_⟩
  · have hne : d ≠ i := fun e => hi (e ▸ hd)
    rw [Array.getElem?_setIfInBounds_ne hne, Array.getElem?_setIfInBounds_ne hne]
    exact h.off i hi
  · by_cases e : d = i
    · subst e
      rw [Array.getElem?_setIfInBounds, Array.getElem?_setIfInBounds, h.size]
      simp only [if_true]
      by_cases hl : d < t'.size
      · right
        simp [hl]
      · left
        simp [hl]
    · rw [Array.getElem?_setIfInBounds_ne e, Array.getElem?_setIfInBounds_ne e]
      exact h.on i hi
/-- What a slot's place is given. -/
def putT (t : Array Value) (dst : Option Tmp) (v : Value) : Array Value :=
  match dst with
  | some d => t.setIfInBounds d v
  | none => t
theorem TmpR.putU (h : TmpR v1 v2 F t t') (dst : Option Tmp) : TmpR v1 v2 F (putT t dst undef) (putT t' dst undef) := by
  cases dst with
  | none => exact h
  | some d => exact h.setU d
theorem TmpR.put (h : TmpR v1 v2 F t t') {o : Oper} (hd : dstOk F o = true) (v : Value) : TmpR v1 v2 F (putT t o.dst v) (putT t' o.dst v) := by
  unfold dstOk at hd
  cases e : o.dst with
  | none => exact h
  | some d => rw [e] at hd; exact h.set (not_cont hd) v
theorem TmpR.putF (h : TmpR v1 v2 F t t') {o : Oper} (hd : dstIn F o = true) : TmpR v1 v2 F (putT t o.dst v1) (putT t' o.dst v2) := by
  unfold dstIn at hd
  cases e : o.dst with
  | none => exact h
  | some d => rw [e] at hd; exact h.setF (is_cont hd)
theorem TmpR.getD (h : TmpR v1 v2 F t t') {i : Nat} (hi : i ∉ F) : t.getD i undef = t'.getD i undef := by
  rw [Array.getD_eq_getD_getElem?, Array.getD_eq_getD_getElem?, h.off i hi]
theorem TmpR.eval (h : TmpR v1 v2 F t t') {x : Operand} (hx : cleanX F x = true) : (Act.mk t []).eval x = (Act.mk t' []).eval x := by
  cases x with
  | tmp i => exact h.getD (not_cont hx)
  | _ => rfl
theorem TmpR.held (h : TmpR v1 v2 F t t') {x : Operand} (hx : heldX F x = true) : ((Act.mk t []).eval x = undef ∧ (Act.mk t' []).eval x = undef) ∨ ((Act.mk t []).eval x = v1 ∧ (Act.mk t' []).eval x = v2) := by
  cases x with
  | tmp i =>
    show (t.getD i undef = undef ∧ t'.getD i undef = undef) ∨ (t.getD i undef = v1 ∧ t'.getD i undef = v2)
    rw [Array.getD_eq_getD_getElem?, Array.getD_eq_getD_getElem?]
    rcases h.on i (is_cont hx) with ⟨e, hu⟩ | ⟨e1, e2⟩
    · left
      rw [← e]
      cases q : t[i]? with
      | none => exact ⟨rfl, rfl⟩
      | some y => have := hu y q; subst this; exact ⟨rfl, rfl⟩
    · right
      rw [e1, e2]
      exact ⟨rfl, rfl⟩
  | _ => cases hx
theorem TmpR.yielded (h : TmpR v1 v2 F t t') (n1 : ∀ b, v1 ≠ .bool b) (n2 : ∀ b, v2 ≠ .bool b) (ops : Array Oper) (j : Nat) : Go.yielded ops t j = Go.yielded ops t' j := by
  unfold Go.yielded
  cases e : (ops[j]?).bind (·.dst) with
  | none => rfl
  | some d =>
    show (match t[d]? with | some (.bool b) => some b | _ => none) = (match t'[d]? with | some (.bool b) => some b | _ => none)
    by_cases hd : d ∈ F
    · rcases h.on d hd with ⟨q, _⟩ | ⟨q1, q2⟩
      · rw [q]
      · rw [q1, q2]
        have a1 : (match some v1 with | some (.bool b) => some b | _ => none : Option Bool) = none := by
          split
          · next b hb => exact absurd (Option.some.inj hb) (n1 b)
          · rfl
        have a2 : (match some v2 with | some (.bool b) => some b | _ => none : Option Bool) = none := by
          split
          · next b hb => exact absurd (Option.some.inj hb) (n2 b)
          · rfl
        rw [a1, a2]
    · rw [h.off d hd]
theorem TmpR.wanted (h : TmpR v1 v2 F t t') (n1 : ∀ b, v1 ≠ .bool b) (n2 : ∀ b, v2 ≠ .bool b) (ops : Array Oper) (o : Oper) : Region.wanted o (Go.yielded ops t) = Region.wanted o (Go.yielded ops t') := by
  have : Go.yielded ops t = Go.yielded ops t' := funext fun j => h.yielded n1 n2 ops j
  rw [this]
end Go.Proofs.Ytdoijemkbjkeeaa

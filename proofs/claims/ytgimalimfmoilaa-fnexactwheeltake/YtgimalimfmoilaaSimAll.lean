/-
  Two runs that part in one function value alone: any step, any run, whole calls. By the verifier.
-/
import Derived.Test.YtgimalimfmoilaaSimRun
namespace Go.Proofs.Ytgimalimfmoilaa
open Go Go.Shelf
variable {P : Program} {T : FuncId → Option (List Tmp)} {v1 v2 : Value} {g0 : FuncId}

theorem fn_of {g : FuncId} {G : List Tmp} (h : okFn P T g G = true) : ∃ fn c, P.funcs[g]? = some fn ∧ fn.body = some c ∧ okCode T G c = true ∧ fn.results.toList.all (resOk G) = true := by
  unfold okFn at h
  cases hf : P.funcs[g]? with
  | none => rw [hf] at h; cases h
  | some fn =>
    rw [hf] at h
    simp only [Bool.and_eq_true] at h
    cases hb : fn.body with
    | none => rw [hb] at h; exact absurd h.1.1 (by simp)
    | some c => rw [hb] at h; exact ⟨fn, c, rfl, hb, h.1.1, h.2⟩
theorem argsOk_at {F G : List Tmp} : ∀ (l : List Operand) (n j : Nat) (x : Operand), argsOk F G l n = true → l[j]? = some x → (if G.contains (n + j) then heldX F x else cleanX F x) = true
  | [], _, j, _, _, h => by simp at h
  | y :: r, n, 0, x, ha, h => by
    simp only [List.getElem?_cons_zero, Option.some.injEq] at h
    subst h
    simp only [argsOk, Bool.and_eq_true] at ha
    exact ha.1
  | y :: r, n, j + 1, x, ha, h => by
    simp only [List.getElem?_cons_succ] at h
    simp only [argsOk, Bool.and_eq_true] at ha
    have := argsOk_at r (n + 1) j x ha.2 h
    rwa [show n + 1 + j = n + (j + 1) by omega] at this
/-- Arguments that part in the function value alone. -/
def ArgR (v1 v2 : Value) (G : List Tmp) (a a' : Array Value) : Prop := TmpR v1 v2 G a a'
theorem enterR {G : List Tmp} {a a' : Array Value} (h : ArgR v1 v2 G a a') (n : Nat) : TmpR v1 v2 G (a ++ Array.replicate (n - a.size) undef) (a' ++ Array.replicate (n - a'.size) undef) := by
  have e : ∀ i, a.size ≤ i → (a ++ Array.replicate (n - a.size) undef)[i]? = (a' ++ Array.replicate (n - a'.size) undef)[i]? ∧ ∀ x, (a ++ Array.replicate (n - a.size) undef)[i]? = some x → x = undef := by
    intro i hi
    rw [Array.getElem?_append_right hi, Array.getElem?_append_right (by rw [← h.size]; exact hi), h.size]
    refine ⟨rfl, fun x hx => ?_⟩
    rw [Array.getElem?_replicate] at hx
    split at hx
    · exact (Option.some.inj hx).symm
    · cases hx
  refine ⟨by simp [h.size], fun i hi => ?_, fun i hi => ?_⟩
  · by_cases q : i < a.size
    · rw [Array.getElem?_append_left q, Array.getElem?_append_left (by rw [← h.size]; exact q)]
      exact h.off i hi
    · exact (e i (by omega)).1
  · by_cases q : i < a.size
    · rw [Array.getElem?_append_left q, Array.getElem?_append_left (by rw [← h.size]; exact q)]
      exact h.on i hi
    · exact .inl (e i (by omega))
theorem enter_is {g : FuncId} {fn : Func} {c : Code} (hf : P.funcs[g]? = some fn) (hb : fn.body = some c) (args : Array Value) : Frame.enter P g args .normal = fx g (args ++ Array.replicate (fn.ntmps - args.size) undef) [.code c] .run := by
  simp [Frame.enter, fx, hf, hb]

section
variable {fn : FuncId} {F : List Tmp} {t t' : Array Value} {stk stk' cs : List Frame} {w w' : World}
theorem went_move {todo todo1 : List Item} {w1 : World} (hF : T fn = some F) (hR : TmpR v1 v2 F t t') (hs : StkR T v1 v2 stk stk') (hi : todo1.all (okItem T F) = true) (h : ∀ t cs, step P (lone (fx fn t todo .run) cs w) = .next (lone (fx fn t todo1 .run) cs w1)) : Went P T v1 v2 fn t t' todo .run stk stk' cs w :=
  .inr (.inr ⟨fn, t, t', todo1, .run, stk, stk', w1, h t _, h t' _, ⟨F, hF, hR, hi⟩, hs⟩)
theorem went_put {todo todo1 : List Item} {w1 : World} {t1 t1' : Array Value} (hF : T fn = some F) (hR : TmpR v1 v2 F t1 t1') (hs : StkR T v1 v2 stk stk') (hi : todo1.all (okItem T F) = true) {m1 : FrameMode} (h : ∀ cs, step P (lone (fx fn t todo .run) cs w) = .next (lone (fx fn t1 todo1 m1) cs w1)) (h' : ∀ cs, step P (lone (fx fn t' todo .run) cs w) = .next (lone (fx fn t1' todo1 m1) cs w1)) : Went P T v1 v2 fn t t' todo .run stk stk' cs w :=
  .inr (.inr ⟨fn, t1, t1', todo1, m1, stk, stk', w1, h _, h' _, ⟨F, hF, hR, hi⟩, hs⟩)
/-- A function is entered. -/
theorem went_enter (S : SimOk P T v1 v2 g0) {ops : Array Oper} {i : Nat} {rest : List Nat} {k : List Item} {o : Oper} (hF : T fn = some F) (hR : TmpR v1 v2 F t t') (hs : StkR T v1 v2 stk stk') (hi : (Item.inRegion ops (i :: rest) :: k).all (okItem T F) = true) (ho : ops[i]? = some o) (hd : dstOk F o = true) (hw : Region.wanted o (yielded ops t) = true) (hw' : Region.wanted o (yielded ops t') = true)
    {g : FuncId} {G : List Tmp} (hG : T g = some G) {a a' : Array Value} (ha : ArgR v1 v2 G a a') (h : (execOp (Act.mk t []).eval o).run P w = .ok (.enter g a) w) (h' : (execOp (Act.mk t' []).eval o).run P w = .ok (.enter g a') w) : Went P T v1 v2 fn t t' (.inRegion ops (i :: rest) :: k) .run stk stk' cs w := by
  obtain ⟨f, c, hf, hb, hc, -⟩ := fn_of (S.fns g G hG)
  have s1 := op_enter (fn := fn) (rest := rest) (k := k) (cs := stk ++ [c0 P]) ho hw h
  have s2 := op_enter (fn := fn) (rest := rest) (k := k) (cs := stk' ++ cs) ho hw' h'
  rw [enter_is hf hb] at s1 s2
  exact .inr (.inr ⟨g, _, _, [.code c], .run, fx fn t (.inRegion ops (i :: rest) :: k) .run :: stk, fx fn t' (.inRegion ops (i :: rest) :: k) .run :: stk', w, s1, s2, ⟨G, hG, enterR ha _, by simp [okItem, hc]⟩, ⟨fn, t, t', ops, i, rest, k, o, F, rfl, rfl, hF, hR, hi, ho, hd⟩, hs⟩)

/-- An operation that looks at no slot of the function value. -/
theorem went_same (S : SimOk P T v1 v2 g0) {ops : Array Oper} {i : Nat} {rest : List Nat} {k : List Item} {o : Oper} (hF : T fn = some F) (hR : TmpR v1 v2 F t t') (hs : StkR T v1 v2 stk stk') (hi : (Item.inRegion ops (i :: rest) :: k).all (okItem T F) = true) (ho : ops[i]? = some o) (hd : dstOk F o = true) (hw : Region.wanted o (yielded ops t) = true) (hw' : Region.wanted o (yielded ops t') = true)
    (he : execOp (Act.mk t []).eval o = execOp (Act.mk t' []).eval o) (hsh : Shape ((execOp (Act.mk t []).eval o).run P w)) : Went P T v1 v2 fn t t' (.inRegion ops (i :: rest) :: k) .run stk stk' cs w := by
  have hi' : (Item.inRegion ops rest :: k).all (okItem T F) = true := by simpa [okItem] using hi
  cases hr : (execOp (Act.mk t []).eval o).run P w with
  | ok n w1 =>
    have hr' := hr
    rw [he] at hr'
    rw [hr] at hsh
    cases n <;> simp only [Shape] at hsh
    case value v => exact went_put hF (hR.put hd v) hs hi' (fun _ => op_value ho hw hr) (fun _ => op_value ho hw' hr')
    case skip => exact went_put hF (hR.putU o.dst) hs hi' (fun _ => op_skip ho hw hr) (fun _ => op_skip ho hw' hr')
  | halt h w1 =>
    have hr' := hr
    rw [he] at hr'
    cases h with
    | panic v => exact went_put hF hR hs hi (fun _ => op_panic ho hw hr) (fun _ => op_panic ho hw' hr')
    | goexit => exact went_put hF hR hs hi (fun _ => op_goexit ho hw hr) (fun _ => op_goexit ho hw' hr')
    | blocked => exact .inr (.inl (op_blocked ho hw hr))
    | waiting => exact .inr (.inl (op_waiting ho hw hr))
    | throw m => exact .inr (.inl (op_throw ho hw hr))
    | fatal m => exact (op_fatal ho hw hr).elim .inl fun q => .inr (.inl q)
    | exit c => exact .inl (op_exit ho hw hr)
    | stuck s => exact .inl (op_stuck ho hw hr)
    | unsupported u =>
      by_cases hu : ∃ g, u = .initOrder g
      · obtain ⟨g, rfl⟩ := hu
        rcases op_init (fn := fn) (rest := rest) (k := k) (cs := stk ++ [c0 P]) ho hw (S.early g) hr with ⟨w2, e, q⟩ | ⟨e, q⟩
        · rcases op_init (fn := fn) (rest := rest) (k := k) (cs := stk' ++ cs) ho hw' (S.early g) hr' with ⟨w3, e', q'⟩ | ⟨e', _⟩
          · rw [e] at e'
            cases e'
            exact .inr (.inr ⟨fn, t, t', _, .run, stk, stk', w2, q, q', ⟨F, hF, hR, hi⟩, hs⟩)
          · rw [e] at e'; cases e'
        · exact .inl q
      · exact .inl (op_unsup ho hw (fun g e => hu ⟨g, e⟩) hr)
end
end Go.Proofs.Ytgimalimfmoilaa

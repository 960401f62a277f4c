import Derived.Test.YtgimalimfmoilaaM13SimCall
import Derived.Test.YtgimalimfmoilaaM9DuCmp
import Derived.Shelf.Abstract
/-
  Two runs that part in one function value alone: a call that hands the one on does what a call that hands the other on does. By the verifier.
-/
namespace Go.Proofs.Ytgimalimfmoilaa
open Go Go.Shelf
variable {P : Program} {T : FuncId → Option (List Tmp)} {v1 v2 : Value} {g0 : FuncId}
variable {fn : FuncId} {F : List Tmp} {t t' : Array Value} {stk stk' cs : List Frame} {w w' : World}

theorem results_same {f : Func} (hR : TmpR v1 v2 F t t') (hr : f.results.toList.all (resOk F) = true) : results f t = results f t' := by
  have hall := List.all_eq_true.1 hr
  have : f.results.mapM (m := Sem) (fun | .tmp t1 => pure (t.getD t1 undef) | .cell a ty => do loadVar ty (← asAddr (t.getD a undef))) = f.results.mapM (m := Sem) (fun | .tmp t1 => pure (t'.getD t1 undef) | .cell a ty => do loadVar ty (← asAddr (t'.getD a undef))) := by
    rw [Array.mapM_eq_mapM_toList, Array.mapM_eq_mapM_toList]
    congr 1
    generalize f.results.toList = l at hall
    induction l with
    | nil => rfl
    | cons x r ih =>
      have h1 := hall x (by simp)
      rw [List.mapM_cons, List.mapM_cons, ih fun y hy => hall y (by simp [hy])]
      cases x with
      | tmp a => simp only [resOk] at h1; simp only [hR.getD (not_cont h1)]
      | cell a ty => simp only [resOk] at h1; simp only [hR.getD (not_cont h1)]
  exact congrArg (fun (s : Sem (Array Value)) => (do let vs ← s; pure (if h : vs.size = 1 then vs[0] else Value.tuple vs) : Sem Value)) this
theorem sim_ret (S : SimOk P T v1 v2 g0) {todo : List Item} (hF : T fn = some F) (hR : TmpR v1 v2 F t t') (hs : StkR T v1 v2 stk stk') : Went P T v1 v2 fn t t' todo .returning stk stk' cs w := by
  obtain ⟨f, c, hf, hb, hc, hr⟩ := fn_of (S.fns fn F hF)
  have hres := results_same hR hr
  cases e : (results f t).run P w with
  | ok v w1 =>
    have hg : ∀ (t : Array Value) (c1 : Frame) (rs : List Frame), (results f t).run P w = .ok v w1 → step P (lone (fx fn t todo .returning) (c1 :: rs) w) = .next (lone (c1.finish v) rs w1) := by
      intro t c1 rs h
      exact step_lone_go (by simp [stepG, unwind, doReturn, fx, hf, h])
    cases stk with
    | nil => exact .inr (.inl ⟨_, hg t (c0 P) [] e, dead_c0 v⟩)
    | cons a r =>
      cases stk' with
      | nil => exact hs.elim
      | cons b s =>
        obtain ⟨⟨fn1, t1, t1', ops, i, rest, k, o, F1, rfl, rfl, q1, q2, q3, q4, q5⟩, q6⟩ := hs
        have h1 := hg t (fx fn1 t1 (.inRegion ops (i :: rest) :: k) .run) (r ++ [c0 P]) e
        have h2 := hg t' (fx fn1 t1' (.inRegion ops (i :: rest) :: k) .run) (s ++ cs) (by rw [← hres, e])
        have f1 : ∀ t1, (fx fn1 t1 (.inRegion ops (i :: rest) :: k) .run).finish v = fx fn1 (putT t1 o.dst v) (.inRegion ops rest :: k) .run := by
          intro t1
          have := Frame.finish_at (fx fn1 #[] [] .run) (Act.mk t1 []) ops i rest k v
          rw [q4, at_put] at this
          exact this
        rw [f1] at h1 h2
        exact .inr (.inr ⟨fn1, _, _, _, .run, r, s, w1, h1, h2, ⟨F1, q1, q2.put q5 v, by simpa [okItem] using q3⟩, q6⟩)
  | halt h w1 =>
    refine .inl ?_
    have : ∃ o w', (stepG P true { frame := fx fn t todo .returning, callers := stk ++ [c0 P], status := .running, dying := none } w).bare = .ended o w' := by
      cases h <;> simp [stepG, unwind, fx, hf, e]
    obtain ⟨o, w2, h⟩ := this
    exact ⟨o, w2, step_lone_ended h⟩
theorem sim_panic (S : SimOk P T v1 v2 g0) {todo : List Item} (ch : List PanicEntry) (hF : T fn = some F) (hs : StkR T v1 v2 stk stk') : Went P T v1 v2 fn t t' todo (.panicking ch) stk stk' cs w := by
  obtain ⟨f, c, hf, hb, hc, hr⟩ := fn_of (S.fns fn F hF)
  have hg : ∀ (t : Array Value) (c1 : Frame) (rs : List Frame), step P (lone (fx fn t todo (.panicking ch)) (c1 :: rs) w) = .next (lone (c1.raise ch) rs w) := by
    intro t c1 rs
    exact step_lone_go (by simp [stepG, unwind, fx, hf, Frame.catches])
  cases stk with
  | nil => exact .inr (.inl ⟨_, hg t (c0 P) [], dead_c0_raise ch⟩)
  | cons a r =>
    cases stk' with
    | nil => exact hs.elim
    | cons b s =>
      obtain ⟨⟨fn1, t1, t1', ops, i, rest, k, o, F1, rfl, rfl, q1, q2, q3, q4, q5⟩, q6⟩ := hs
      exact .inr (.inr ⟨fn1, t1, t1', _, .panicking ch, r, s, w, hg t _ _, hg t' _ _, ⟨F1, q1, q2, q3⟩, q6⟩)
theorem sim_step (S : SimOk P T v1 v2 g0) {todo : List Item} {mode : FrameMode} (h : MR T v1 v2 fn t t' todo stk stk') : Went P T v1 v2 fn t t' todo mode stk stk' cs w := by
  obtain ⟨⟨F, hF, hR, hi⟩, hs⟩ := h
  cases mode with
  | run => exact sim_run S hF hR hs hi
  | returning => exact sim_ret S hF hR hs
  | panicking ch => exact sim_panic S ch hF hs
theorem sim_all (S : SimOk P T v1 v2 g0) (cs : List Frame) {frE : Frame} {wE : World} {v : Value} (hl : frE.leaving P wE (.returned v)) (n : Nat) : ∀ (fn : FuncId) (t t' : Array Value) (todo : List Item) (mode : FrameMode) (stk stk' : List Frame) (w : World), MR T v1 v2 fn t t' todo stk stk' → runN P n (lone (fx fn t todo mode) (stk ++ [c0 P]) w) = .next (lone frE [c0 P] wE) →
    ∃ fr, Steps P (lone (fx fn t' todo mode) (stk' ++ cs) w) (lone fr cs wE) ∧ fr.fn = frE.fn ∧ fr.leaving P wE (.returned v) := by
  induction n with
  | zero =>
    intro fn t t' todo mode stk stk' w h q
    simp only [runN, Stepped.next.injEq, lone, Machine.mk.injEq, Array.mk.injEq, List.cons.injEq, Goroutine.mk.injEq] at q
    obtain ⟨e1, ⟨⟨e2, e3, -⟩, -⟩, -⟩ := q
    obtain rfl : stk = [] := by
      have := congrArg List.length e3
      cases stk with
      | nil => rfl
      | cons a r => simp at this
    subst e1
    subst e2
    obtain ⟨⟨F, hF, hR, hi⟩, hs⟩ := h
    obtain rfl : stk' = [] := by
      cases stk' with
      | nil => rfl
      | cons a r => exact hs.elim
    refine ⟨_, Steps.refl P _, rfl, ?_⟩
    obtain ⟨m1, m2, m3, f, m4, m5⟩ := hl
    obtain ⟨f', c, hf, hb, hc, hr⟩ := fn_of (S.fns fn F hF)
    have m4' : P.funcs[fn]? = some f := m4
    rw [hf] at m4'
    cases m4'
    refine ⟨m1, rfl, rfl, f, m4, ?_⟩
    show (results f t').run P w = _
    rw [← results_same hR hr]
    exact m5
  | succ n ih =>
    intro fn t t' todo mode stk stk' w h q
    rcases sim_step (cs := cs) (w := w) (mode := mode) S h with ⟨o, w1, e⟩ | ⟨m1, e, hd⟩ | ⟨fn1, t1, t1', todo1, mode1, stk1, stk1', w1, e, e', hm⟩
    · simp [runN, e] at q
    · simp only [runN, e] at q
      exact absurd q (hd n frE wE)
    · simp only [runN, e] at q
      obtain ⟨fr, hst, q1, q2⟩ := ih fn1 t1 t1' todo1 mode1 stk1 stk1' w1 hm q
      exact ⟨fr, Steps.head e' hst, q1, q2⟩
/-- A call that hands the one function value on does what a call that hands the other on does. -/
theorem calls_sim (S : SimOk P T v1 v2 g0) {f : FuncId} {G : List Tmp} (hf : T f = some G) {args args' : Array Value} (ha : ArgR v1 v2 G args args') {R : Ending → World → Prop} (hR : ∀ e w', R e w' → ∃ v, e = .returned v) (h : Calls P f args w R) : Calls P f args' w R := by
  intro cs
  obtain ⟨e, w', fr, hRe, hc, hfn, hl⟩ := h [c0 P]
  obtain ⟨v, rfl⟩ := hR _ _ hRe
  obtain ⟨n, hn⟩ := hc
  obtain ⟨fn, c, hfu, hb, hco, -⟩ := fn_of (S.fns f G hf)
  rw [enter_is hfu hb] at hn
  obtain ⟨fr', hst, q1, q2⟩ := sim_all S cs hl n f _ _ _ _ [] [] w ⟨⟨G, hf, enterR ha fn.ntmps, by simp [okItem, hco]⟩, trivial⟩ hn
  rw [← enter_is hfu hb] at hst
  exact ⟨.returned v, w', fr', hRe, hst, q1.trans hfn, q2⟩
end Go.Proofs.Ytgimalimfmoilaa

/-
  A method expression enters its method; the program has no variables that wait. By the verifier.
-/
namespace Go.Proofs.Ytgimalimfmoilaa
open Go.RowKit Go.Shelf

theorem noReadyS : (Try.prog.funcs.all fun f => (f.body.map readies).all (·.isEmpty)) = true := by kernel_rfl
theorem noStepS (g : Nat) : Try.prog.stepOf g = none := by
  unfold Program.stepOf
  rw [Array.findIdx?_eq_none_iff]
  intro f hf
  have h := Array.all_eq_true_iff_forall_mem.1 noReadyS f hf
  cases hb : f.body with
  | none => simp
  | some c =>
    rw [hb] at h
    have : readies c = [] := by simpa using h
    simp [this]
theorem methE1 (args : Array Value) (w : World) (_h : args.size = 2) : (do let d ← Deferred.ofValue (.func (.func 81) #[] #[]) args; invoke d.target d.args : Sem Next).run Try.prog w = .ok (.enter 81 args) w := by
  have he : Enters Try.prog 81 := enters_of Try.func81 (by kernel_rfl) rfl
  rw [Sem.run_bind]
  simp only [Deferred.ofValue, Sem.run_pure, Result.andThen_ok, invoke]
  have := he args w
  simp only [Array.empty_append, Array.append_empty]
  exact this
theorem methE2 (args : Array Value) (w : World) (h : args.size = 2) : (do let d ← Deferred.ofValue (.func (.methodOf 33 "loop.example/g00316/impl.order") #[] #[]) args; invoke d.target d.args : Sem Next).run Try.prog w = .ok (.enter 81 args) w := by
  obtain ⟨x, y, rfl⟩ : ∃ x y, args = #[x, y] := by
    obtain ⟨l⟩ := args
    match l, h with
    | [x, y], _ => exact ⟨x, y, rfl⟩
  have he : Enters Try.prog 81 := enters_of Try.func81 (by kernel_rfl) rfl
  have hm := orderMeth x w
  have := he #[x, y] w
  simp [Deferred.ofValue, invoke, callMethod, run_underlying Try.underlying33]
  show ((Sem.run Try.prog (Go.method 254 33 x "loop.example/g00316/impl.order") w).andThen _) = _
  rw [hm]
  simp only [Result.andThen_ok]
  exact this
end Go.Proofs.Ytgimalimfmoilaa

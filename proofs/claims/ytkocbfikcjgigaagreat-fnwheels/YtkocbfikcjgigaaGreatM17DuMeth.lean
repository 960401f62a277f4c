import Derived.Test.YtkocbfikcjgigaaGreatM16SimCall
import Derived.Shelf.SlSortCmp.WholeK
import Derived.Test.YtkocbfikcjgigaaGreatProg
import Derived.Test.YtkocbfikcjgigaaGreatM14DuCmp
import Derived.Shelf.Abstract
/-
  Two runs that part in one function value alone: a call that hands the one on does what a call that hands the other on does. By the verifier.
-/
namespace Go.Proofs.YtkocbfikcjgigaaGreat
open Go Go.Shelf
variable {P : Program} {T : FuncId → Option (List Tmp)} {v1 v2 : Value} {g0 : FuncId}
variable {fn : FuncId} {F : List Tmp} {t t' : Array Value} {stk stk' cs : List Frame} {w w' : World}

theorem results_same {f : Func} (hR : TmpR v1 v2 F t t') (hr : f.results.toList.all (resOk F) = true) : results f t = results f t' := by
  have hall := List.all_eq_true.1 hr
  have : f.results.mapM (m := Sem) (fun | .tmp t1 => pure (t.getD t1 undef) | .cell a ty => do loadVar ty (← asAddr (t.getD a undef))) = f.results.mapM (m := Sem) (fun | .tmp t1 => pure (t'.getD t1 undef) | .cell a ty => do loadVar ty (← asAddr (t'.getD a undef))) := by
    rw [Array.mapM_eq_mapM_toList, Array.mapM_eq_mapM_toList]
    congr 1
    generalize f.results.toList = l at hall
    induction l with
    | nil => rfl
    | cons x r ih =>
      have h1 := hall x (by simp)
      rw [List.mapM_cons, List.mapM_cons, ih fun y hy => hall y (by simp [hy])]
      cases x with
      | tmp a => simp only [resOk] at h1; simp only [hR.getD (not_cont h1)]
      | cell a ty => simp only [resOk] at h1; simp only [hR.getD (not_cont h1)]
  exact congrArg (fun (s : Sem (Array Value)) => (do let vs ← s; pure (if h : vs.size = 1 then vs[0] else Value.tuple vs) : Sem Value)) this
theorem sim_ret (S : SimOk P T v1 v2 g0) {todo : List Item} (hF : T fn = some F) (hR : TmpR v1 v2 F t t') (hs : StkR T v1 v2 stk stk') : Went P T v1 v2 fn t t' todo .returning stk stk' cs w := by
  obtain ⟨f, c, hf, hb, hc, hr⟩ := fn_of (S.fns fn F hF)
  have hres := results_same hR hr
  cases e : (results f t).run P w with
  | ok v w1 =>
    have hg : ∀ (t : Array Value) (c1 : Frame) (rs : List Frame), (results f t).run P w = .ok v w1 → step P (lone (fx fn t todo .returning) (c1 :: rs) w) = .next (lone (c1.finish v) rs w1) := by
      intro t c1 rs h
      exact step_lone_go (by simp [stepG, unwind, doReturn, fx, hf, h])
    cases stk with
    | nil => exact .inr (.inl ⟨_, hg t (c0 P) [] e, dead_c0 v⟩)
    | cons a r =>
      cases stk' with
      | nil => exact hs.elim
      | cons b s =>
        obtain ⟨⟨fn1, t1, t1', ops, i, rest, k, o, F1, rfl, rfl, q1, q2, q3, q4, q5⟩, q6⟩ := hs
        have h1 := hg t (fx fn1 t1 (.inRegion ops (i :: rest) :: k) .run) (r ++ [c0 P]) e
        have h2 := hg t' (fx fn1 t1' (.inRegion ops (i :: rest) :: k) .run) (s ++ cs) (by rw [← hres, e])
        have f1 : ∀ t1, (fx fn1 t1 (.inRegion ops (i :: rest) :: k) .run).finish v = fx fn1 (putT t1 o.dst v) (.inRegion ops rest :: k) .run := by
          intro t1
          have := Frame.finish_at (fx fn1 #[] [] .run) (Act.mk t1 []) ops i rest k v
          rw [q4, at_put] at this
          exact this
        rw [f1] at h1 h2
        exact .inr (.inr ⟨fn1, _, _, _, .run, r, s, w1, h1, h2, ⟨F1, q1, q2.put q5 v, by simpa [okItem] using q3⟩, q6⟩)
  | halt h w1 =>
    refine .inl ?_
    have : ∃ o w', (stepG P true { frame := fx fn t todo .returning, callers := stk ++ [c0 P], status := .running, dying := none } w).bare = .ended o w' := by
      cases h <;> simp [stepG, unwind, fx, hf, e]
    obtain ⟨o, w2, h⟩ := this
    exact ⟨o, w2, step_lone_ended h⟩
theorem sim_panic (S : SimOk P T v1 v2 g0) {todo : List Item} (ch : List PanicEntry) (hF : T fn = some F) (hs : StkR T v1 v2 stk stk') : Went P T v1 v2 fn t t' todo (.panicking ch) stk stk' cs w := by
  obtain ⟨f, c, hf, hb, hc, hr⟩ := fn_of (S.fns fn F hF)
  have hg : ∀ (t : Array Value) (c1 : Frame) (rs : List Frame), step P (lone (fx fn t todo (.panicking ch)) (c1 :: rs) w) = .next (lone (c1.raise ch) rs w) := by
    intro t c1 rs
    exact step_lone_go (by simp [stepG, unwind, fx, hf, Frame.catches])
  cases stk with
  | nil => exact .inr (.inl ⟨_, hg t (c0 P) [], dead_c0_raise ch⟩)
  | cons a r =>
    cases stk' with
    | nil => exact hs.elim
    | cons b s =>
      obtain ⟨⟨fn1, t1, t1', ops, i, rest, k, o, F1, rfl, rfl, q1, q2, q3, q4, q5⟩, q6⟩ := hs
      exact .inr (.inr ⟨fn1, t1, t1', _, .panicking ch, r, s, w, hg t _ _, hg t' _ _, ⟨F1, q1, q2, q3⟩, q6⟩)
theorem sim_step (S : SimOk P T v1 v2 g0) {todo : List Item} {mode : FrameMode} (h : MR T v1 v2 fn t t' todo stk stk') : Went P T v1 v2 fn t t' todo mode stk stk' cs w := by
  obtain ⟨⟨F, hF, hR, hi⟩, hs⟩ := h
  cases mode with
  | run => exact sim_run S hF hR hs hi
  | returning => exact sim_ret S hF hR hs
  | panicking ch => exact sim_panic S ch hF hs
theorem sim_all (S : SimOk P T v1 v2 g0) (cs : List Frame) {frE : Frame} {wE : World} {v : Value} (hl : frE.leaving P wE (.returned v)) (n : Nat) : ∀ (fn : FuncId) (t t' : Array Value) (todo : List Item) (mode : FrameMode) (stk stk' : List Frame) (w : World), MR T v1 v2 fn t t' todo stk stk' → runN P n (lone (fx fn t todo mode) (stk ++ [c0 P]) w) = .next (lone frE [c0 P] wE) →
    ∃ fr, Steps P (lone (fx fn t' todo mode) (stk' ++ cs) w) (lone fr cs wE) ∧ fr.fn = frE.fn ∧ fr.leaving P wE (.returned v) := by
  induction n with
  | zero =>
    intro fn t t' todo mode stk stk' w h q
    simp only [runN, Stepped.next.injEq, lone, Machine.mk.injEq, Array.mk.injEq, List.cons.injEq, Goroutine.mk.injEq] at q
    obtain ⟨e1, ⟨⟨e2, e3, -⟩, -⟩, -⟩ := q
    obtain rfl : stk = [] := by
      have := congrArg List.length e3
      cases stk with
      | nil => rfl
      | cons a r => simp at this
    subst e1
    subst e2
    obtain ⟨⟨F, hF, hR, hi⟩, hs⟩ := h
    obtain rfl : stk' = [] := by
      cases stk' with
      | nil => rfl
      | cons a r => exact hs.elim
    refine ⟨_, Steps.refl P _, rfl, ?_⟩
    obtain ⟨m1, m2, m3, f, m4, m5⟩ := hl
    obtain ⟨f', c, hf, hb, hc, hr⟩ := fn_of (S.fns fn F hF)
    have m4' : P.funcs[fn]? = some f := m4
    rw [hf] at m4'
    cases m4'
    refine ⟨m1, rfl, rfl, f, m4, ?_⟩
    show (results f t').run P w = _
    rw [← results_same hR hr]
    exact m5
  | succ n ih =>
    intro fn t t' todo mode stk stk' w h q
    rcases sim_step (cs := cs) (w := w) (mode := mode) S h with ⟨o, w1, e⟩ | ⟨m1, e, hd⟩ | ⟨fn1, t1, t1', todo1, mode1, stk1, stk1', w1, e, e', hm⟩
    · simp [runN, e] at q
    · simp only [runN, e] at q
      exact absurd q (hd n frE wE)
    · simp only [runN, e] at q
      obtain ⟨fr, hst, q1, q2⟩ := ih fn1 t1 t1' todo1 mode1 stk1 stk1' w1 hm q
      exact ⟨fr, Steps.head e' hst, q1, q2⟩
/-- A call that hands the one function value on does what a call that hands the other on does. -/
theorem calls_sim (S : SimOk P T v1 v2 g0) {f : FuncId} {G : List Tmp} (hf : T f = some G) {args args' : Array Value} (ha : ArgR v1 v2 G args args') {R : Ending → World → Prop} (hR : ∀ e w', R e w' → ∃ v, e = .returned v) (h : Calls P f args w R) : Calls P f args' w R := by
  intro cs
  obtain ⟨e, w', fr, hRe, hc, hfn, hl⟩ := h [c0 P]
  obtain ⟨v, rfl⟩ := hR _ _ hRe
  obtain ⟨n, hn⟩ := hc
  obtain ⟨fn, c, hfu, hb, hco, -⟩ := fn_of (S.fns f G hf)
  rw [enter_is hfu hb] at hn
  obtain ⟨fr', hst, q1, q2⟩ := sim_all S cs hl n f _ _ _ _ [] [] w ⟨⟨G, hf, enterR ha fn.ntmps, by simp [okItem, hco]⟩, trivial⟩ hn
  rw [← enter_is hfu hb] at hst
  exact ⟨.returned v, w', fr', hRe, hst, q1.trans hfn, q2⟩
end Go.Proofs.YtkocbfikcjgigaaGreat

/-
  The library's contract for a list put in order, laid at this translation. By the verifier, by program.
-/
namespace Go.Proofs
open Go.Shelf
def Tryz.sortA_ren : Go.Shelf.Ren := ⟨fun | 6 => 59 | 15 => 75 | 14 => 74 | 28 => 89 | 29 => 90 | 20 => 81 | 21 => 82 | 22 => 83 | 23 => 84 | 24 => 85 | 25 => 86 | 26 => 87 | 27 => 88 | 46 => 94 | 47 => 95 | 48 => 96 | 49 => 97 | 50 => 98 | 57 => 100 | n => n, fun | 22 => 24 | 24 => 33 | 25 => 86 | 3 => 3 | 39 => 99 | 0 => 0 | 53 => 120 | 55 => 122 | 4 => 4 | 46 => 114 | 45 => 113 | 50 => 63 | 5 => 5 | 9 => 9 | 66 => 126 | 70 => 130 | 76 => 133 | 77 => 134 | n => n, fun | n => n⟩
theorem Tryz.sortA : Go.Proofs.SlLaysF0.n6 Tryz.prog Tryz.sortA_ren := {
  mixed := by kernel_rfl
  f6 := ⟨Tryz.f59.name, by decide, Tryz.func59.trans (congrArg some (by kernel_rfl))⟩
  f14 := ⟨Tryz.f74.name, by decide, Tryz.func74.trans (congrArg some (by kernel_rfl))⟩
  f15 := Tryz.func75.trans (congrArg some (by kernel_rfl))
  f20 := ⟨Tryz.f81.name, by decide, Tryz.func81.trans (congrArg some (by kernel_rfl))⟩
  f21 := ⟨Tryz.f82.name, by decide, Tryz.func82.trans (congrArg some (by kernel_rfl))⟩
  f22 := ⟨Tryz.f83.name, by decide, Tryz.func83.trans (congrArg some (by kernel_rfl))⟩
  f23 := ⟨Tryz.f84.name, by decide, Tryz.func84.trans (congrArg some (by kernel_rfl))⟩
  f24 := ⟨Tryz.f85.name, by decide, Tryz.func85.trans (congrArg some (by kernel_rfl))⟩
  f25 := ⟨Tryz.f86.name, by decide, Tryz.func86.trans (congrArg some (by kernel_rfl))⟩
  f26 := ⟨Tryz.f87.name, by decide, Tryz.func87.trans (congrArg some (by kernel_rfl))⟩
  f27 := ⟨Tryz.f88.name, by decide, Tryz.func88.trans (congrArg some (by kernel_rfl))⟩
  f28 := Tryz.func89.trans (congrArg some (by kernel_rfl))
  f29 := Tryz.func90.trans (congrArg some (by kernel_rfl))
  f46 := ⟨Tryz.f94.name, by decide, Tryz.func94.trans (congrArg some (by kernel_rfl))⟩
  f47 := Tryz.func95.trans (congrArg some (by kernel_rfl))
  f48 := Tryz.func96.trans (congrArg some (by kernel_rfl))
  f49 := ⟨Tryz.f97.name, by decide, Tryz.func97.trans (congrArg some (by kernel_rfl))⟩
  f50 := ⟨Tryz.f98.name, by decide, Tryz.func98.trans (congrArg some (by kernel_rfl))⟩
  f57 := ⟨Tryz.f100.name, by decide, Tryz.func100.trans (congrArg some (by kernel_rfl))⟩
  t0 := Tryz.underlying0
  a0 := Tryz.isAgg0
  z0 := Tryz.sizeOf0
  v0 := Tryz.zeroValue0
  t3 := Tryz.underlying3
  a3 := Tryz.isAgg3
  z3 := Tryz.sizeOf3
  v3 := Tryz.zeroValue3
  t4 := Tryz.underlying4
  a4 := Tryz.isAgg4
  z4 := Tryz.sizeOf4
  v4 := Tryz.zeroValue4
  t5 := Tryz.underlying5
  a5 := Tryz.isAgg5
  z5 := Tryz.sizeOf5
  v5 := Tryz.zeroValue5
  t9 := Tryz.underlying9
  a9 := Tryz.isAgg9
  z9 := Tryz.sizeOf9
  v9 := Tryz.zeroValue9
  t22 := Tryz.underlying24
  a22 := Tryz.isAgg24
  z22 := Tryz.sizeOf24
  v22 := Tryz.zeroValue24
  t25 := Tryz.underlying86
  a25 := Tryz.isAgg86
  z25 := Tryz.sizeOf86
  v25 := Tryz.zeroValue86
  t39 := Tryz.underlying99
  a39 := Tryz.isAgg99
  z39 := Tryz.sizeOf99
  v39 := Tryz.zeroValue99
  t45 := Tryz.underlying113
  a45 := Tryz.isAgg113
  z45 := Tryz.sizeOf113
  v45 := Tryz.zeroValue113
  t46 := Tryz.underlying114
  a46 := Tryz.isAgg114
  z46 := Tryz.sizeOf114
  v46 := Tryz.zeroValue114
  t50 := Tryz.underlying63
  a50 := Tryz.isAgg63
  z50 := Tryz.sizeOf63
  v50 := Tryz.zeroValue63
  t53 := Tryz.underlying120
  a53 := Tryz.isAgg120
  z53 := Tryz.sizeOf120
  v53 := Tryz.zeroValue120
  t55 := Tryz.underlying122
  a55 := Tryz.isAgg122
  z55 := Tryz.sizeOf122
  v55 := Tryz.zeroValue122
  t66 := Tryz.underlying126
  a66 := Tryz.isAgg126
  z66 := Tryz.sizeOf126
  v66 := Tryz.zeroValue126
  t70 := Tryz.underlying130
  a70 := Tryz.isAgg130
  z70 := Tryz.sizeOf130
  v70 := Tryz.zeroValue130
  t76 := Tryz.underlying133
  a76 := Tryz.isAgg133
  z76 := Tryz.sizeOf133
  v76 := Tryz.zeroValue133
  t77 := Tryz.underlying134
  a77 := Tryz.isAgg134
  z77 := Tryz.sizeOf134
  v77 := Tryz.zeroValue134 }
end Go.Proofs

/-
  slices.SortFunc on dues with the method expression: in order behind it, and the same dues. By the verifier.
-/
namespace Go.Proofs.YtkocbfikcjgigaaGreat
open Go.RowKit Go.Shelf

/-- The functions that a sort runs, each with the slots that hold its order. -/
def sortT : FuncId → Option (List Tmp) := fun g => List.lookup g [(59, [1, 12]), (79, []), (74, [4, 29, 36, 43, 51, 60, 79, 84, 102, 110, 133, 145]), (75, []), (92, []), (93, []), (81, [3, 22]), (82, [3, 28, 58]), (83, [3]), (84, [3, 39, 43, 47, 53]), (85, [3]), (86, [3, 23, 72, 112]), (87, [4, 35, 54]), (88, [4, 36, 54, 109, 127]), (89, []), (90, []), (99, []), (94, [4, 24, 43]), (95, []), (96, []), (97, [3, 16]), (98, [5, 18, 27, 36]), (100, [4, 12])]
theorem okTab_yes : ([59, 79, 74, 75, 92, 93, 81, 82, 83, 84, 85, 86, 87, 88, 89, 90, 99, 94, 95, 96, 97, 98, 100].all fun g => (sortT g).all (okFn Tryz.prog sortT g)) = true := by kernel_rfl
theorem sortT_in {g : FuncId} {G : List Tmp} (h : sortT g = some G) : g ∈ [59, 79, 74, 75, 92, 93, 81, 82, 83, 84, 85, 86, 87, 88, 89, 90, 99, 94, 95, 96, 97, 98, 100] := by
  unfold sortT at h
  simp only [List.lookup] at h
  repeat' (split at h)
  all_goals first | (cases h; done) | (simp_all; done)
theorem noReady : (Tryz.prog.funcs.all fun f => (f.body.map readies).all (·.isEmpty)) = true := by kernel_rfl
theorem noStep (g : Nat) : Tryz.prog.stepOf g = none := by
  unfold Program.stepOf
  rw [Array.findIdx?_eq_none_iff]
  intro f hf
  have h := Array.all_eq_true_iff_forall_mem.1 noReady f hf
  cases hb : f.body with
  | none => simp
  | some c =>
    rw [hb] at h
    have : readies c = [] := by simpa using h
    simp [this]
theorem sortSim : SimOk Tryz.prog sortT (.func (.func 79) #[] #[]) (.func (.methodOf 33 "loop.example/g00316/impl.order") #[] #[]) 79 where
  fns g G h := by
    have := List.all_eq_true.1 okTab_yes g (sortT_in h)
    rw [h] at this
    simpa using this
  one := by kernel_rfl
  e1 args w h := by
    have he : Enters Tryz.prog 79 := enters_of Tryz.func79 (by kernel_rfl) rfl
    rw [Sem.run_bind]
    simp only [Deferred.ofValue, Sem.run_pure, Result.andThen_ok, invoke]
    have := he args w
    simp only [Array.empty_append, Array.append_empty]
    exact this
  e2 args w h := by
    obtain ⟨x, y, rfl⟩ : ∃ x y, args = #[x, y] := by
      obtain ⟨l⟩ := args
      match l, h with
      | [x, y], _ => exact ⟨x, y, rfl⟩
    have he : Enters Tryz.prog 79 := enters_of Tryz.func79 (by kernel_rfl) rfl
    have hm := orderMeth x w
    have := he #[x, y] w
    simp [Deferred.ofValue, invoke, callMethod, run_underlying Tryz.underlying33]
    show ((Sem.run Tryz.prog (Go.method 251 33 x "loop.example/g00316/impl.order") w).andThen _) = _
    rw [hm]
    simp only [Result.andThen_ok]
    exact this
  n1 b h := by cases h
  n2 b h := by cases h
  early := noStep
end Go.Proofs.YtkocbfikcjgigaaGreat

/-
  A method expression enters its method; the program has no variables that wait. By the verifier.
-/
namespace Go.Proofs.YtkocbfikcjgigaaGreat
open Go.RowKit Go.Shelf

theorem noReadyS : (Tryz.prog.funcs.all fun f => (f.body.map readies).all (·.isEmpty)) = true := by kernel_rfl
theorem noStepS (g : Nat) : Tryz.prog.stepOf g = none := by
  unfold Program.stepOf
  rw [Array.findIdx?_eq_none_iff]
  intro f hf
  have h := Array.all_eq_true_iff_forall_mem.1 noReadyS f hf
  cases hb : f.body with
  | none => simp
  | some c =>
    rw [hb] at h
    have : readies c = [] := by simpa using h
    simp [this]
theorem methE1 (args : Array Value) (w : World) (_h : args.size = 2) : (do let d ← Deferred.ofValue (.func (.func 79) #[] #[]) args; invoke d.target d.args : Sem Next).run Tryz.prog w = .ok (.enter 79 args) w := by
  have he : Enters Tryz.prog 79 := enters_of Tryz.func79 (by kernel_rfl) rfl
  rw [Sem.run_bind]
  simp only [Deferred.ofValue, Sem.run_pure, Result.andThen_ok, invoke]
  have := he args w
  simp only [Array.empty_append, Array.append_empty]
  exact this
theorem methE2 (args : Array Value) (w : World) (h : args.size = 2) : (do let d ← Deferred.ofValue (.func (.methodOf 33 "loop.example/g00316/impl.order") #[] #[]) args; invoke d.target d.args : Sem Next).run Tryz.prog w = .ok (.enter 79 args) w := by
  obtain ⟨x, y, rfl⟩ : ∃ x y, args = #[x, y] := by
    obtain ⟨l⟩ := args
    match l, h with
    | [x, y], _ => exact ⟨x, y, rfl⟩
  have he : Enters Tryz.prog 79 := enters_of Tryz.func79 (by kernel_rfl) rfl
  have hm := orderMeth x w
  have := he #[x, y] w
  simp [Deferred.ofValue, invoke, callMethod, run_underlying Tryz.underlying33]
  show ((Sem.run Tryz.prog (Go.method 251 33 x "loop.example/g00316/impl.order") w).andThen _) = _
  rw [hm]
  simp only [Result.andThen_ok]
  exact this
end Go.Proofs.YtkocbfikcjgigaaGreat

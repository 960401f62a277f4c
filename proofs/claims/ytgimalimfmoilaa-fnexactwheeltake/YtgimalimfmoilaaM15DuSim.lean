import Derived.Test.YtgimalimfmoilaaSimCall
import Derived.Shelf.SlSortCmp.WholeK
import Derived.Test.YtgimalimfmoilaaProg
import Derived.Test.YtgimalimfmoilaaM13DuCmp
/-
  Two runs that part in one function value alone: a call that hands the one on does what a call that hands the other on does. By the verifier.
-/
namespace Go.Proofs.Ytgimalimfmoilaa
open Go Go.Shelf
variable {P : Program} {T : FuncId → Option (List Tmp)} {v1 v2 : Value} {g0 : FuncId}
variable {fn : FuncId} {F : List Tmp} {t t' : Array Value} {stk stk' cs : List Frame} {w w' : World}

theorem results_same {f : Func} (hR : TmpR v1 v2 F t t') (hr : f.results.toList.all (resOk F) = true) : results f t = results f t' := by
  have hall := List.all_eq_true.1 hr
  have : f.results.mapM (m := Sem) (fun | .tmp t1 => pure (t.getD t1 undef) | .cell a ty => do loadVar ty (← asAddr (t.getD a undef))) = f.results.mapM (m := Sem) (fun | .tmp t1 => pure (t'.getD t1 undef) | .cell a ty => do loadVar ty (← asAddr (t'.getD a undef))) := by
    rw [Array.mapM_eq_mapM_toList, Array.mapM_eq_mapM_toList]
    congr 1
    generalize f.results.toList = l at hall
    induction l with
    | nil => rfl
    | cons x r ih =>
      have h1 := hall x (by simp)
      rw [List.mapM_cons, List.mapM_cons, ih fun y hy => hall y (by simp [hy])]
      cases x with
      | tmp a => simp only [resOk] at h1; simp only [hR.getD (not_cont h1)]
      | cell a ty => simp only [resOk] at h1; simp only [hR.getD (not_cont h1)]
  exact congrArg (fun (s : Sem (Array Value)) => (do let vs ← s; pure (if h : vs.size = 1 then vs[0] else Value.tuple vs) : Sem Value)) this
theorem sim_ret (S : SimOk P T v1 v2 g0) {todo : List Item} (hF : T fn = some F) (hR : TmpR v1 v2 F t t') (hs : StkR T v1 v2 stk stk') : Went P T v1 v2 fn t t' todo .returning stk stk' cs w := by
  obtain ⟨f, c, hf, hb, hc, hr⟩ := fn_of (S.fns fn F hF)
  have hres := results_same hR hr
  cases e : (results f t).run P w with
  | ok v w1 =>
    have hg : ∀ (t : Array Value) (c1 : Frame) (rs : List Frame), (results f t).run P w = .ok v w1 → step P (lone (fx fn t todo .returning) (c1 :: rs) w) = .next (lone (c1.finish v) rs w1) := by
      intro t c1 rs h
      exact step_lone_go (by simp [stepG, unwind, doReturn, fx, hf, h])
    cases stk with
    | nil => exact .inr (.inl ⟨_, hg t (c0 P) [] e, dead_c0 v⟩)
    | cons a r =>
      cases stk' with
      | nil => exact hs.elim
      | cons b s =>
        obtain ⟨⟨fn1, t1, t1', ops, i, rest, k, o, F1, rfl, rfl, q1, q2, q3, q4, q5⟩, q6⟩ := hs
        have h1 := hg t (fx fn1 t1 (.inRegion ops (i :: rest) :: k) .run) (r ++ [c0 P]) e
        have h2 := hg t' (fx fn1 t1' (.inRegion ops (i :: rest) :: k) .run) (s ++ cs) (by rw [← hres, e])
        have f1 : ∀ t1, (fx fn1 t1 (.inRegion ops (i :: rest) :: k) .run).finish v = fx fn1 (putT t1 o.dst v) (.inRegion ops rest :: k) .run := by
          intro t1
          have := Frame.finish_at (fx fn1 #[] [] .run) (Act.mk t1 []) ops i rest k v
          rw [q4, at_put] at this
          exact this
        rw [f1] at h1 h2
        exact .inr (.inr ⟨fn1, _, _, _, .run, r, s, w1, h1, h2, ⟨F1, q1, q2.put q5 v, by simpa [okItem] using q3⟩, q6⟩)
  | halt h w1 =>
    refine .inl ?_
    have : ∃ o w', (stepG P true { frame := fx fn t todo .returning, callers := stk ++ [c0 P], status := .running, dying := none } w).bare = .ended o w' := by
      cases h <;> simp [stepG, unwind, fx, hf, e]
    obtain ⟨o, w2, h⟩ := this
    exact ⟨o, w2, step_lone_ended h⟩
theorem sim_panic (S : SimOk P T v1 v2 g0) {todo : List Item} (ch : List PanicEntry) (hF : T fn = some F) (hs : StkR T v1 v2 stk stk') : Went P T v1 v2 fn t t' todo (.panicking ch) stk stk' cs w := by
  obtain ⟨f, c, hf, hb, hc, hr⟩ := fn_of (S.fns fn F hF)
  have hg : ∀ (t : Array Value) (c1 : Frame) (rs : List Frame), step P (lone (fx fn t todo (.panicking ch)) (c1 :: rs) w) = .next (lone (c1.raise ch) rs w) := by
    intro t c1 rs
    exact step_lone_go (by simp [stepG, unwind, fx, hf, Frame.catches])
  cases stk with
  | nil => exact .inr (.inl ⟨_, hg t (c0 P) [], dead_c0_raise ch⟩)
  | cons a r =>
    cases stk' with
    | nil => exact hs.elim
    | cons b s =>
      obtain ⟨⟨fn1, t1, t1', ops, i, rest, k, o, F1, rfl, rfl, q1, q2, q3, q4, q5⟩, q6⟩ := hs
      exact .inr (.inr ⟨fn1, t1, t1', _, .panicking ch, r, s, w, hg t _ _, hg t' _ _, ⟨F1, q1, q2, q3⟩, q6⟩)
theorem sim_step (S : SimOk P T v1 v2 g0) {todo : List Item} {mode : FrameMode} (h : MR T v1 v2 fn t t' todo stk stk') : Went P T v1 v2 fn t t' todo mode stk stk' cs w := by
  obtain ⟨⟨F, hF, hR, hi⟩, hs⟩ := h
  cases mode with
  | run => exact sim_run S hF hR hs hi
  | returning => exact sim_ret S hF hR hs
  | panicking ch => exact sim_panic S ch hF hs
theorem sim_all (S : SimOk P T v1 v2 g0) (cs : List Frame) {frE : Frame} {wE : World} {v : Value} (hl : frE.leaving P wE (.returned v)) (n : Nat) : ∀ (fn : FuncId) (t t' : Array Value) (todo : List Item) (mode : FrameMode) (stk stk' : List Frame) (w : World), MR T v1 v2 fn t t' todo stk stk' → runN P n (lone (fx fn t todo mode) (stk ++ [c0 P]) w) = .next (lone frE [c0 P] wE) →
    ∃ fr, Steps P (lone (fx fn t' todo mode) (stk' ++ cs) w) (lone fr cs wE) ∧ fr.fn = frE.fn ∧ fr.leaving P wE (.returned v) := by
  induction n with
  | zero =>
    intro fn t t' todo mode stk stk' w h q
    simp only [runN, Stepped.next.injEq, lone, Machine.mk.injEq, Array.mk.injEq, List.cons.injEq, Goroutine.mk.injEq] at q
    obtain ⟨e1, ⟨⟨e2, e3, -⟩, -⟩, -⟩ := q
    obtain rfl : stk = [] := by
      have := congrArg List.length e3
      cases stk with
      | nil => rfl
      | cons a r => simp at this
    subst e1
    subst e2
    obtain ⟨⟨F, hF, hR, hi⟩, hs⟩ := h
    obtain rfl : stk' = [] := by
      cases stk' with
      | nil => rfl
      | cons a r => exact hs.elim
    refine ⟨_, Steps.refl P _, rfl, ?_⟩
    obtain ⟨m1, m2, m3, f, m4, m5⟩ := hl
    obtain ⟨f', c, hf, hb, hc, hr⟩ := fn_of (S.fns fn F hF)
    have m4' : P.funcs[fn]? = some f := m4
    rw [hf] at m4'
    cases m4'
    refine ⟨m1, rfl, rfl, f, m4, ?_⟩
    show (results f t').run P w = _
    rw [← results_same hR hr]
    exact m5
  | succ n ih =>
    intro fn t t' todo mode stk stk' w h q
    rcases sim_step (cs := cs) (w := w) (mode := mode) S h with ⟨o, w1, e⟩ | ⟨m1, e, hd⟩ | ⟨fn1, t1, t1', todo1, mode1, stk1, stk1', w1, e, e', hm⟩
    · simp [runN, e] at q
    · simp only [runN, e] at q
      exact absurd q (hd n frE wE)
    · simp only [runN, e] at q
      obtain ⟨fr, hst, q1, q2⟩ := ih fn1 t1 t1' todo1 mode1 stk1 stk1' w1 hm q
      exact ⟨fr, Steps.head e' hst, q1, q2⟩
/-- A call that hands the one function value on does what a call that hands the other on does. -/
theorem calls_sim (S : SimOk P T v1 v2 g0) {f : FuncId} {G : List Tmp} (hf : T f = some G) {args args' : Array Value} (ha : ArgR v1 v2 G args args') {R : Ending → World → Prop} (hR : ∀ e w', R e w' → ∃ v, e = .returned v) (h : Calls P f args w R) : Calls P f args' w R := by
  intro cs
  obtain ⟨e, w', fr, hRe, hc, hfn, hl⟩ := h [c0 P]
  obtain ⟨v, rfl⟩ := hR _ _ hRe
  obtain ⟨n, hn⟩ := hc
  obtain ⟨fn, c, hfu, hb, hco, -⟩ := fn_of (S.fns f G hf)
  rw [enter_is hfu hb] at hn
  obtain ⟨fr', hst, q1, q2⟩ := sim_all S cs hl n f _ _ _ _ [] [] w ⟨⟨G, hf, enterR ha fn.ntmps, by simp [okItem, hco]⟩, trivial⟩ hn
  rw [← enter_is hfu hb] at hst
  exact ⟨.returned v, w', fr', hRe, hst, q1.trans hfn, q2⟩
end Go.Proofs.Ytgimalimfmoilaa

/-
  The library's contract for a list put in order, laid at this translation. By the verifier, by program.
-/
namespace Go.Proofs
open Go.Shelf
def Try.sortA_ren : Go.Shelf.Ren := ⟨fun | 6 => 67 | 15 => 83 | 14 => 82 | 28 => 99 | 29 => 100 | 20 => 91 | 21 => 92 | 22 => 93 | 23 => 94 | 24 => 95 | 25 => 96 | 26 => 97 | 27 => 98 | 46 => 103 | 47 => 104 | 48 => 105 | 49 => 106 | 50 => 107 | 57 => 108 | n => n, fun | 22 => 25 | 24 => 33 | 25 => 88 | 3 => 3 | 39 => 104 | 0 => 0 | 53 => 125 | 55 => 127 | 4 => 4 | 46 => 119 | 45 => 118 | 50 => 80 | 5 => 5 | 9 => 9 | 66 => 130 | 70 => 134 | 76 => 136 | 77 => 137 | n => n, fun | n => n⟩
theorem Try.sortA : Go.Proofs.SlLaysF0.n6 Try.prog Try.sortA_ren := {
  mixed := by kernel_rfl
  f6 := ⟨Try.f67.name, by decide, Try.func67.trans (congrArg some (by kernel_rfl))⟩
  f14 := ⟨Try.f82.name, by decide, Try.func82.trans (congrArg some (by kernel_rfl))⟩
  f15 := Try.func83.trans (congrArg some (by kernel_rfl))
  f20 := ⟨Try.f91.name, by decide, Try.func91.trans (congrArg some (by kernel_rfl))⟩
  f21 := ⟨Try.f92.name, by decide, Try.func92.trans (congrArg some (by kernel_rfl))⟩
  f22 := ⟨Try.f93.name, by decide, Try.func93.trans (congrArg some (by kernel_rfl))⟩
  f23 := ⟨Try.f94.name, by decide, Try.func94.trans (congrArg some (by kernel_rfl))⟩
  f24 := ⟨Try.f95.name, by decide, Try.func95.trans (congrArg some (by kernel_rfl))⟩
  f25 := ⟨Try.f96.name, by decide, Try.func96.trans (congrArg some (by kernel_rfl))⟩
  f26 := ⟨Try.f97.name, by decide, Try.func97.trans (congrArg some (by kernel_rfl))⟩
  f27 := ⟨Try.f98.name, by decide, Try.func98.trans (congrArg some (by kernel_rfl))⟩
  f28 := Try.func99.trans (congrArg some (by kernel_rfl))
  f29 := Try.func100.trans (congrArg some (by kernel_rfl))
  f46 := ⟨Try.f103.name, by decide, Try.func103.trans (congrArg some (by kernel_rfl))⟩
  f47 := Try.func104.trans (congrArg some (by kernel_rfl))
  f48 := Try.func105.trans (congrArg some (by kernel_rfl))
  f49 := ⟨Try.f106.name, by decide, Try.func106.trans (congrArg some (by kernel_rfl))⟩
  f50 := ⟨Try.f107.name, by decide, Try.func107.trans (congrArg some (by kernel_rfl))⟩
  f57 := ⟨Try.f108.name, by decide, Try.func108.trans (congrArg some (by kernel_rfl))⟩
  t0 := Try.underlying0
  a0 := Try.isAgg0
  z0 := Try.sizeOf0
  v0 := Try.zeroValue0
  t3 := Try.underlying3
  a3 := Try.isAgg3
  z3 := Try.sizeOf3
  v3 := Try.zeroValue3
  t4 := Try.underlying4
  a4 := Try.isAgg4
  z4 := Try.sizeOf4
  v4 := Try.zeroValue4
  t5 := Try.underlying5
  a5 := Try.isAgg5
  z5 := Try.sizeOf5
  v5 := Try.zeroValue5
  t9 := Try.underlying9
  a9 := Try.isAgg9
  z9 := Try.sizeOf9
  v9 := Try.zeroValue9
  t22 := Try.underlying25
  a22 := Try.isAgg25
  z22 := Try.sizeOf25
  v22 := Try.zeroValue25
  t25 := Try.underlying88
  a25 := Try.isAgg88
  z25 := Try.sizeOf88
  v25 := Try.zeroValue88
  t39 := Try.underlying104
  a39 := Try.isAgg104
  z39 := Try.sizeOf104
  v39 := Try.zeroValue104
  t45 := Try.underlying118
  a45 := Try.isAgg118
  z45 := Try.sizeOf118
  v45 := Try.zeroValue118
  t46 := Try.underlying119
  a46 := Try.isAgg119
  z46 := Try.sizeOf119
  v46 := Try.zeroValue119
  t50 := Try.underlying80
  a50 := Try.isAgg80
  z50 := Try.sizeOf80
  v50 := Try.zeroValue80
  t53 := Try.underlying125
  a53 := Try.isAgg125
  z53 := Try.sizeOf125
  v53 := Try.zeroValue125
  t55 := Try.underlying127
  a55 := Try.isAgg127
  z55 := Try.sizeOf127
  v55 := Try.zeroValue127
  t66 := Try.underlying130
  a66 := Try.isAgg130
  z66 := Try.sizeOf130
  v66 := Try.zeroValue130
  t70 := Try.underlying134
  a70 := Try.isAgg134
  z70 := Try.sizeOf134
  v70 := Try.zeroValue134
  t76 := Try.underlying136
  a76 := Try.isAgg136
  z76 := Try.sizeOf136
  v76 := Try.zeroValue136
  t77 := Try.underlying137
  a77 := Try.isAgg137
  z77 := Try.sizeOf137
  v77 := Try.zeroValue137 }
end Go.Proofs

/-
  slices.SortFunc on dues with the method expression: in order behind it, and the same dues. By the verifier.
-/
namespace Go.Proofs.Ytgimalimfmoilaa
open Go.RowKit Go.Shelf

/-- The functions that a sort runs, each with the slots that hold its order. -/
def sortT : FuncId → Option (List Tmp) := fun g => List.lookup g [(67, [1, 12]), (81, []), (82, [4, 29, 36, 43, 51, 60, 79, 84, 102, 110, 133, 145]), (83, []), (89, []), (90, []), (91, [3, 22]), (92, [3, 28, 58]), (93, [3]), (94, [3, 39, 43, 47, 53]), (95, [3]), (96, [3, 23, 72, 112]), (97, [4, 35, 54]), (98, [4, 36, 54, 109, 127]), (99, []), (100, []), (102, []), (103, [4, 24, 43]), (104, []), (105, []), (106, [3, 16]), (107, [5, 18, 27, 36]), (108, [4, 12])]
theorem okTab_yes : ([67, 81, 82, 83, 89, 90, 91, 92, 93, 94, 95, 96, 97, 98, 99, 100, 102, 103, 104, 105, 106, 107, 108].all fun g => (sortT g).all (okFn Try.prog sortT g)) = true := by kernel_rfl
theorem sortT_in {g : FuncId} {G : List Tmp} (h : sortT g = some G) : g ∈ [67, 81, 82, 83, 89, 90, 91, 92, 93, 94, 95, 96, 97, 98, 99, 100, 102, 103, 104, 105, 106, 107, 108] := by
  unfold sortT at h
  simp only [List.lookup] at h
  repeat' (split at h)
  all_goals first | (cases h; done) | (simp_all; done)
theorem noReady : (Try.prog.funcs.all fun f => (f.body.map readies).all (·.isEmpty)) = true := by kernel_rfl
theorem noStep (g : Nat) : Try.prog.stepOf g = none := by
  unfold Program.stepOf
  rw [Array.findIdx?_eq_none_iff]
  intro f hf
  have h := Array.all_eq_true_iff_forall_mem.1 noReady f hf
  cases hb : f.body with
  | none => simp
  | some c =>
    rw [hb] at h
    have : readies c = [] := by simpa using h
    simp [this]
theorem sortSim : SimOk Try.prog sortT (.func (.func 81) #[] #[]) (.func (.methodOf 33 "loop.example/g00316/impl.order") #[] #[]) 81 where
  fns g G h := by
    have := List.all_eq_true.1 okTab_yes g (sortT_in h)
    rw [h] at this
    simpa using this
  one := by kernel_rfl
  e1 args w h := by
    have he : Enters Try.prog 81 := enters_of Try.func81 (by kernel_rfl) rfl
    rw [Sem.run_bind]
    simp only [Deferred.ofValue, Sem.run_pure, Result.andThen_ok, invoke]
    have := he args w
    simp only [Array.empty_append, Array.append_empty]
    exact this
  e2 args w h := by
    obtain ⟨x, y, rfl⟩ : ∃ x y, args = #[x, y] := by
      obtain ⟨l⟩ := args
      match l, h with
      | [x, y], _ => exact ⟨x, y, rfl⟩
    have he : Enters Try.prog 81 := enters_of Try.func81 (by kernel_rfl) rfl
    have hm := orderMeth x w
    have := he #[x, y] w
    simp [Deferred.ofValue, invoke, callMethod, run_underlying Try.underlying33]
    show ((Sem.run Try.prog (Go.method 254 33 x "loop.example/g00316/impl.order") w).andThen _) = _
    rw [hm]
    simp only [Result.andThen_ok]
    exact this
  n1 b h := by cases h
  n2 b h := by cases h
  early := noStep
end Go.Proofs.Ytgimalimfmoilaa

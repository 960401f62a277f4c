import Derived.Test.YtdoijemkbjkeeaaM18SimCall
import Derived.Shelf.SlSortCmp.WholeK
import Derived.Test.YtdoijemkbjkeeaaProg
import Derived.Test.YtdoijemkbjkeeaaM14DuCmp
import Derived.Test.YtdoijemkbjkeeaaM13DzAll
import Derived.Test.YtdoijemkbjkeeaaM3WhFn
/-
  Two runs that part in one function value alone: a call that hands the one on does what a call that hands the other on does. By the verifier.
-/
namespace Go.Proofs.Ytdoijemkbjkeeaa
open Go Go.Shelf
variable {P : Program} {T : FuncId → Option (List Tmp)} {v1 v2 : Value} {g0 : FuncId}
variable {fn : FuncId} {F : List Tmp} {t t' : Array Value} {stk stk' cs : List Frame} {w w' : World}

theorem results_same {f : Func} (hR : TmpR v1 v2 F t t') (hr : f.results.toList.all (resOk F) = true) : results f t = results f t' := by
  have hall := List.all_eq_true.1 hr
  have : f.results.mapM (m := Sem) (fun | .tmp t1 => pure (t.getD t1 undef) | .cell a ty => do loadVar ty (← asAddr (t.getD a undef))) = f.results.mapM (m := Sem) (fun | .tmp t1 => pure (t'.getD t1 undef) | .cell a ty => do loadVar ty (← asAddr (t'.getD a undef))) := by
    rw [Array.mapM_eq_mapM_toList, Array.mapM_eq_mapM_toList]
    congr 1
    generalize f.results.toList = l at hall
    induction l with
    | nil => rfl
    | cons x r ih =>
      have h1 := hall x (by simp)
      rw [List.mapM_cons, List.mapM_cons, ih fun y hy => hall y (by simp [hy])]
      cases x with
      | tmp a => simp only [resOk] at h1; simp only [hR.getD (not_cont h1)]
      | cell a ty => simp only [resOk] at h1; simp only [hR.getD (not_cont h1)]
  exact congrArg (fun (s : Sem (Array Value)) => (do let vs ← s; pure (if h : vs.size = 1 then vs[0] else Value.tuple vs) : Sem Value)) this
theorem sim_ret (S : SimOk P T v1 v2 g0) {todo : List Item} (hF : T fn = some F) (hR : TmpR v1 v2 F t t') (hs : StkR T v1 v2 stk stk') : Went P T v1 v2 fn t t' todo .returning stk stk' cs w := by
  obtain ⟨f, c, hf, hb, hc, hr⟩ := fn_of (S.fns fn F hF)
  have hres := results_same hR hr
  cases e : (results f t).run P w with
  | ok v w1 =>
    have hg : ∀ (t : Array Value) (c1 : Frame) (rs : List Frame), (results f t).run P w = .ok v w1 → step P (lone (fx fn t todo .returning) (c1 :: rs) w) = .next (lone (c1.finish v) rs w1) := by
      intro t c1 rs h
      exact step_lone_go (by simp [stepG, unwind, doReturn, fx, hf, h])
    cases stk with
    | nil => exact .inr (.inl ⟨_, hg t (c0 P) [] e, dead_c0 v⟩)
    | cons a r =>
      cases stk' with
      | nil => exact hs.elim
      | cons b s =>
        obtain ⟨⟨fn1, t1, t1', ops, i, rest, k, o, F1, rfl, rfl, q1, q2, q3, q4, q5⟩, q6⟩ := hs
        have h1 := hg t (fx fn1 t1 (.inRegion ops (i :: rest) :: k) .run) (r ++ [c0 P]) e
        have h2 := hg t' (fx fn1 t1' (.inRegion ops (i :: rest) :: k) .run) (s ++ cs) (by rw [← hres, e])
        have f1 : ∀ t1, (fx fn1 t1 (.inRegion ops (i :: rest) :: k) .run).finish v = fx fn1 (putT t1 o.dst v) (.inRegion ops rest :: k) .run := by
          intro t1
          have := Frame.finish_at (fx fn1 #[] [] .run) (Act.mk t1 []) ops i rest k v
          rw [q4, at_put] at this
          exact this
        rw [f1] at h1 h2
        exact .inr (.inr ⟨fn1, _, _, _, .run, r, s, w1, h1, h2, ⟨F1, q1, q2.put q5 v, by simpa [okItem] using q3⟩, q6⟩)
  | halt h w1 =>
    refine .inl ?_
    have : ∃ o w', (stepG P true { frame := fx fn t todo .returning, callers := stk ++ [c0 P], status := .running, dying := none } w).bare = .ended o w' := by
      cases h <;> simp [stepG, unwind, fx, hf, e]
    obtain ⟨o, w2, h⟩ := this
    exact ⟨o, w2, step_lone_ended h⟩
theorem sim_panic (S : SimOk P T v1 v2 g0) {todo : List Item} (ch : List PanicEntry) (hF : T fn = some F) (hs : StkR T v1 v2 stk stk') : Went P T v1 v2 fn t t' todo (.panicking ch) stk stk' cs w := by
  obtain ⟨f, c, hf, hb, hc, hr⟩ := fn_of (S.fns fn F hF)
  have hg : ∀ (t : Array Value) (c1 : Frame) (rs : List Frame), step P (lone (fx fn t todo (.panicking ch)) (c1 :: rs) w) = .next (lone (c1.raise ch) rs w) := by
    intro t c1 rs
    exact step_lone_go (by simp [stepG, unwind, fx, hf, Frame.catches])
  cases stk with
  | nil => exact .inr (.inl ⟨_, hg t (c0 P) [], dead_c0_raise ch⟩)
  | cons a r =>
    cases stk' with
    | nil => exact hs.elim
    | cons b s =>
      obtain ⟨⟨fn1, t1, t1', ops, i, rest, k, o, F1, rfl, rfl, q1, q2, q3, q4, q5⟩, q6⟩ := hs
      exact .inr (.inr ⟨fn1, t1, t1', _, .panicking ch, r, s, w, hg t _ _, hg t' _ _, ⟨F1, q1, q2, q3⟩, q6⟩)
theorem sim_step (S : SimOk P T v1 v2 g0) {todo : List Item} {mode : FrameMode} (h : MR T v1 v2 fn t t' todo stk stk') : Went P T v1 v2 fn t t' todo mode stk stk' cs w := by
  obtain ⟨⟨F, hF, hR, hi⟩, hs⟩ := h
  cases mode with
  | run => exact sim_run S hF hR hs hi
  | returning => exact sim_ret S hF hR hs
  | panicking ch => exact sim_panic S ch hF hs
theorem sim_all (S : SimOk P T v1 v2 g0) (cs : List Frame) {frE : Frame} {wE : World} {v : Value} (hl : frE.leaving P wE (.returned v)) (n : Nat) : ∀ (fn : FuncId) (t t' : Array Value) (todo : List Item) (mode : FrameMode) (stk stk' : List Frame) (w : World), MR T v1 v2 fn t t' todo stk stk' → runN P n (lone (fx fn t todo mode) (stk ++ [c0 P]) w) = .next (lone frE [c0 P] wE) →
    ∃ fr, Steps P (lone (fx fn t' todo mode) (stk' ++ cs) w) (lone fr cs wE) ∧ fr.fn = frE.fn ∧ fr.leaving P wE (.returned v) := by
  induction n with
  | zero =>
    intro fn t t' todo mode stk stk' w h q
    simp only [runN, Stepped.next.injEq, lone, Machine.mk.injEq, Array.mk.injEq, List.cons.injEq, Goroutine.mk.injEq] at q
    obtain ⟨e1, ⟨⟨e2, e3, -⟩, -⟩, -⟩ := q
    obtain rfl : stk = [] := by
      have := congrArg List.length e3
      cases stk with
      | nil => rfl
      | cons a r => simp at this
    subst e1
    subst e2
    obtain ⟨⟨F, hF, hR, hi⟩, hs⟩ := h
    obtain rfl : stk' = [] := by
      cases stk' with
      | nil => rfl
      | cons a r => exact hs.elim
    refine ⟨_, Steps.refl P _, rfl, ?_⟩
    obtain ⟨m1, m2, m3, f, m4, m5⟩ := hl
    obtain ⟨f', c, hf, hb, hc, hr⟩ := fn_of (S.fns fn F hF)
    have m4' : P.funcs[fn]? = some f := m4
    rw [hf] at m4'
    cases m4'
    refine ⟨m1, rfl, rfl, f, m4, ?_⟩
    show (results f t').run P w = _
    rw [← results_same hR hr]
    exact m5
  | succ n ih =>
    intro fn t t' todo mode stk stk' w h q
    rcases sim_step (cs := cs) (w := w) (mode := mode) S h with ⟨o, w1, e⟩ | ⟨m1, e, hd⟩ | ⟨fn1, t1, t1', todo1, mode1, stk1, stk1', w1, e, e', hm⟩
    · simp [runN, e] at q
    · simp only [runN, e] at q
      exact absurd q (hd n frE wE)
    · simp only [runN, e] at q
      obtain ⟨fr, hst, q1, q2⟩ := ih fn1 t1 t1' todo1 mode1 stk1 stk1' w1 hm q
      exact ⟨fr, Steps.head e' hst, q1, q2⟩
/-- A call that hands the one function value on does what a call that hands the other on does. -/
theorem calls_sim (S : SimOk P T v1 v2 g0) {f : FuncId} {G : List Tmp} (hf : T f = some G) {args args' : Array Value} (ha : ArgR v1 v2 G args args') {R : Ending → World → Prop} (hR : ∀ e w', R e w' → ∃ v, e = .returned v) (h : Calls P f args w R) : Calls P f args' w R := by
  intro cs
  obtain ⟨e, w', fr, hRe, hc, hfn, hl⟩ := h [c0 P]
  obtain ⟨v, rfl⟩ := hR _ _ hRe
  obtain ⟨n, hn⟩ := hc
  obtain ⟨fn, c, hfu, hb, hco, -⟩ := fn_of (S.fns f G hf)
  rw [enter_is hfu hb] at hn
  obtain ⟨fr', hst, q1, q2⟩ := sim_all S cs hl n f _ _ _ _ [] [] w ⟨⟨G, hf, enterR ha fn.ntmps, by simp [okItem, hco]⟩, trivial⟩ hn
  rw [← enter_is hfu hb] at hst
  exact ⟨.returned v, w', fr', hRe, hst, q1.trans hfn, q2⟩
end Go.Proofs.Ytdoijemkbjkeeaa

/-
  The library's contract for a list put in order, laid at this translation. By the verifier, by program.
-/
namespace Go.Proofs
open Go.Shelf
def Try.sortA_ren : Go.Shelf.Ren := ⟨fun | 6 => 67 | 15 => 76 | 14 => 75 | 28 => 89 | 29 => 90 | 20 => 81 | 21 => 82 | 22 => 83 | 23 => 84 | 24 => 85 | 25 => 86 | 26 => 87 | 27 => 88 | 46 => 93 | 47 => 94 | 48 => 95 | 49 => 96 | 50 => 97 | 57 => 99 | n => n, fun | 22 => 42 | 24 => 34 | 25 => 85 | 3 => 3 | 39 => 96 | 0 => 0 | 53 => 116 | 55 => 118 | 4 => 4 | 46 => 110 | 45 => 109 | 50 => 62 | 5 => 5 | 9 => 9 | 66 => 122 | 70 => 126 | 76 => 129 | 77 => 130 | n => n, fun | n => n⟩
theorem Try.sortA : Go.Proofs.SlLaysF0.n6 Try.prog Try.sortA_ren := {
  mixed := by kernel_rfl
  f6 := ⟨Try.f67.name, by decide, Try.func67.trans (congrArg some (by kernel_rfl))⟩
  f14 := ⟨Try.f75.name, by decide, Try.func75.trans (congrArg some (by kernel_rfl))⟩
  f15 := Try.func76.trans (congrArg some (by kernel_rfl))
  f20 := ⟨Try.f81.name, by decide, Try.func81.trans (congrArg some (by kernel_rfl))⟩
  f21 := ⟨Try.f82.name, by decide, Try.func82.trans (congrArg some (by kernel_rfl))⟩
  f22 := ⟨Try.f83.name, by decide, Try.func83.trans (congrArg some (by kernel_rfl))⟩
  f23 := ⟨Try.f84.name, by decide, Try.func84.trans (congrArg some (by kernel_rfl))⟩
  f24 := ⟨Try.f85.name, by decide, Try.func85.trans (congrArg some (by kernel_rfl))⟩
  f25 := ⟨Try.f86.name, by decide, Try.func86.trans (congrArg some (by kernel_rfl))⟩
  f26 := ⟨Try.f87.name, by decide, Try.func87.trans (congrArg some (by kernel_rfl))⟩
  f27 := ⟨Try.f88.name, by decide, Try.func88.trans (congrArg some (by kernel_rfl))⟩
  f28 := Try.func89.trans (congrArg some (by kernel_rfl))
  f29 := Try.func90.trans (congrArg some (by kernel_rfl))
  f46 := ⟨Try.f93.name, by decide, Try.func93.trans (congrArg some (by kernel_rfl))⟩
  f47 := Try.func94.trans (congrArg some (by kernel_rfl))
  f48 := Try.func95.trans (congrArg some (by kernel_rfl))
  f49 := ⟨Try.f96.name, by decide, Try.func96.trans (congrArg some (by kernel_rfl))⟩
  f50 := ⟨Try.f97.name, by decide, Try.func97.trans (congrArg some (by kernel_rfl))⟩
  f57 := ⟨Try.f99.name, by decide, Try.func99.trans (congrArg some (by kernel_rfl))⟩
  t0 := Try.underlying0
  a0 := Try.isAgg0
  z0 := Try.sizeOf0
  v0 := Try.zeroValue0
  t3 := Try.underlying3
  a3 := Try.isAgg3
  z3 := Try.sizeOf3
  v3 := Try.zeroValue3
  t4 := Try.underlying4
  a4 := Try.isAgg4
  z4 := Try.sizeOf4
  v4 := Try.zeroValue4
  t5 := Try.underlying5
  a5 := Try.isAgg5
  z5 := Try.sizeOf5
  v5 := Try.zeroValue5
  t9 := Try.underlying9
  a9 := Try.isAgg9
  z9 := Try.sizeOf9
  v9 := Try.zeroValue9
  t22 := Try.underlying42
  a22 := Try.isAgg42
  z22 := Try.sizeOf42
  v22 := Try.zeroValue42
  t25 := Try.underlying85
  a25 := Try.isAgg85
  z25 := Try.sizeOf85
  v25 := Try.zeroValue85
  t39 := Try.underlying96
  a39 := Try.isAgg96
  z39 := Try.sizeOf96
  v39 := Try.zeroValue96
  t45 := Try.underlying109
  a45 := Try.isAgg109
  z45 := Try.sizeOf109
  v45 := Try.zeroValue109
  t46 := Try.underlying110
  a46 := Try.isAgg110
  z46 := Try.sizeOf110
  v46 := Try.zeroValue110
  t50 := Try.underlying62
  a50 := Try.isAgg62
  z50 := Try.sizeOf62
  v50 := Try.zeroValue62
  t53 := Try.underlying116
  a53 := Try.isAgg116
  z53 := Try.sizeOf116
  v53 := Try.zeroValue116
  t55 := Try.underlying118
  a55 := Try.isAgg118
  z55 := Try.sizeOf118
  v55 := Try.zeroValue118
  t66 := Try.underlying122
  a66 := Try.isAgg122
  z66 := Try.sizeOf122
  v66 := Try.zeroValue122
  t70 := Try.underlying126
  a70 := Try.isAgg126
  z70 := Try.sizeOf126
  v70 := Try.zeroValue126
  t76 := Try.underlying129
  a76 := Try.isAgg129
  z76 := Try.sizeOf129
  v76 := Try.zeroValue129
  t77 := Try.underlying130
  a77 := Try.isAgg130
  z77 := Try.sizeOf130
  v77 := Try.zeroValue130 }
end Go.Proofs

/-
  slices.SortFunc on dues with the method expression: in order behind it, and the same dues. By the verifier.
-/
namespace Go.Proofs.Ytdoijemkbjkeeaa
open Go.RowKit Go.Shelf

/-- The functions that a sort runs, each with the slots that hold its order. -/
def sortT : FuncId → Option (List Tmp) := fun g => List.lookup g [(67, [1, 12]), (80, []), (75, [4, 29, 36, 43, 51, 60, 79, 84, 102, 110, 133, 145]), (76, []), (91, []), (92, []), (81, [3, 22]), (82, [3, 28, 58]), (83, [3]), (84, [3, 39, 43, 47, 53]), (85, [3]), (86, [3, 23, 72, 112]), (87, [4, 35, 54]), (88, [4, 36, 54, 109, 127]), (89, []), (90, []), (98, []), (93, [4, 24, 43]), (94, []), (95, []), (96, [3, 16]), (97, [5, 18, 27, 36]), (99, [4, 12])]
theorem okTab_yes : ([67, 80, 75, 76, 91, 92, 81, 82, 83, 84, 85, 86, 87, 88, 89, 90, 98, 93, 94, 95, 96, 97, 99].all fun g => (sortT g).all (okFn Try.prog sortT g)) = true := by kernel_rfl
theorem sortT_in {g : FuncId} {G : List Tmp} (h : sortT g = some G) : g ∈ [67, 80, 75, 76, 91, 92, 81, 82, 83, 84, 85, 86, 87, 88, 89, 90, 98, 93, 94, 95, 96, 97, 99] := by
  unfold sortT at h
  simp only [List.lookup] at h
  repeat' (split at h)
  all_goals first | (cases h; done) | (simp_all; done)
theorem noReady : (Try.prog.funcs.all fun f => (f.body.map readies).all (·.isEmpty)) = true := by kernel_rfl
theorem noStep (g : Nat) : Try.prog.stepOf g = none := by
  unfold Program.stepOf
  rw [Array.findIdx?_eq_none_iff]
  intro f hf
  have h := Array.all_eq_true_iff_forall_mem.1 noReady f hf
  cases hb : f.body with
  | none => simp
  | some c =>
    rw [hb] at h
    have : readies c = [] := by simpa using h
    simp [this]
theorem sortSim : SimOk Try.prog sortT (.func (.func 80) #[] #[]) (.func (.methodOf 34 "loop.example/g00316/impl.order") #[] #[]) 80 where
  fns g G h := by
    have := List.all_eq_true.1 okTab_yes g (sortT_in h)
    rw [h] at this
    simpa using this
  one := by kernel_rfl
  e1 args w h := by
    have he : Enters Try.prog 80 := enters_of Try.func80 (by kernel_rfl) rfl
    rw [Sem.run_bind]
    simp only [Deferred.ofValue, Sem.run_pure, Result.andThen_ok, invoke]
    have := he args w
    simp only [Array.empty_append, Array.append_empty]
    exact this
  e2 args w h := by
    obtain ⟨x, y, rfl⟩ : ∃ x y, args = #[x, y] := by
      obtain ⟨l⟩ := args
      match l, h with
      | [x, y], _ => exact ⟨x, y, rfl⟩
    have he : Enters Try.prog 80 := enters_of Try.func80 (by kernel_rfl) rfl
    have hm := orderMeth x w
    have := he #[x, y] w
    simp [Deferred.ofValue, invoke, callMethod, run_underlying Try.underlying34]
    show ((Sem.run Try.prog (Go.method 248 34 x "loop.example/g00316/impl.order") w).andThen _) = _
    rw [hm]
    simp only [Result.andThen_ok]
    exact this
  n1 b h := by cases h
  n2 b h := by cases h
  early := noStep
end Go.Proofs.Ytdoijemkbjkeeaa

/-
  A list of dues of the call's own, put in order. By the verifier.
-/
namespace Go.Proofs.Ytdoijemkbjkeeaa
open Go.RowKit Go.Shelf

/-- Dues as pairs, as the library's sort takes them. -/
def duEnc (x : Int × Int) : List Value := [.int .i64 x.1, .int .i64 x.2]
def Du.pair (d : Du) : Int × Int := (d.time, d.id)
def unpair (x : Int × Int) : Du := ⟨x.1, x.2⟩
theorem unpair_pair (d : Du) : unpair d.pair = d := rfl
def duCf (x y : Int × Int) : Int := duOrdV (unpair x) (unpair y)
theorem duLt (x y : Int × Int) : ltOf duCf x y = decide ((unpair x).lt (unpair y)) := by
  unfold ltOf duCf
  rw [decide_eq_decide]
  exact duOrd_lt _ _
theorem duSwo : Go.Sort.SWO (ltOf duCf) where
  irrefl x := by rw [duLt]; exact decide_eq_false (Du.lt_irrefl _)
  trans x y z h1 h2 := by rw [duLt] at *; exact decide_eq_true (Du.lt_trans (of_decide_eq_true h1) (of_decide_eq_true h2))
  ntrans x y z h1 h2 := by rw [duLt] at *; exact decide_eq_false (Du.le_trans (of_decide_eq_false h2) (of_decide_eq_false h1))
theorem duLays (blk off size : Nat) (w : World) : CmpLays Try.prog 80 #[] duEnc 2 duCf blk off size w :=
  fun _ _ _ _ x y => (implOrderG (unpair x) (unpair y) _).mono fun _ _ h => h
/-- The cells of a list, flat. -/
theorem flat_du (l : List Du) : (Go.Sort.flatK duEnc 2 (l.map Du.pair).toArray).toList = ducells l := by
  apply List.ext_getElem?
  intro i
  by_cases hi : i < l.length * 2
  · have hs : i < (Go.Sort.flatK duEnc 2 (l.map Du.pair).toArray).size := by rw [Go.Sort.size_flatK]; simpa using hi
    have hk : i / 2 < l.length := by omega
    have e := Go.Sort.get_flatK duEnc 2 (l.map Du.pair).toArray i (by simpa using hi)
    rw [Array.getElem?_toList, Array.getElem?_eq_getElem hs, ← getElem!_pos (Go.Sort.flatK duEnc 2 (l.map Du.pair).toArray) i hs, e]
    have hp : (l.map Du.pair).toArray[i / 2]! = (duAt l (i / 2)).pair := by
      rw [getElem!_pos _ _ (by simpa using hk), duAt_lt hk]
      simp
    rw [hp]
    obtain ⟨e0, e1⟩ := ducells_get l (i / 2) hk
    rcases Nat.mod_two_eq_zero_or_one i with m | m
    · rw [m]
      rw [show i / 2 * 2 = i by omega] at e0
      rw [e0]
      rfl
    · rw [m]
      rw [show i / 2 * 2 + 1 = i by omega] at e1
      rw [e1]
      rfl
  · rw [List.getElem?_eq_none (by rw [Array.length_toList, Go.Sort.size_flatK]; simp; omega), List.getElem?_eq_none (by rw [ducells_length]; omega)]
theorem du_holds {base : Nat} {w : World} {g cap : Nat} {l : List Du} (h : DuRow base w (.slice (some ⟨g, 0, none⟩) l.length cap) l) : Go.Sort.HoldsK duEnc 2 w g 0 (l.map Du.pair).toArray := by
  intro j hj
  have hj2 : j < l.length * 2 := by rw [Go.Sort.size_flatK] at hj; simpa using hj
  have hc := World.ownsRow.cellAt h
  refine ⟨?_, World.ownsRow.frozenAt h _⟩
  rw [Nat.zero_add, hc j (by omega), ← flat_du, Array.getElem?_toList, Array.getElem?_eq_getElem hj, getElem!_pos (Go.Sort.flatK duEnc 2 (l.map Du.pair).toArray) j hj]
  rfl
theorem take_put (F cur : Array Value) (h : F.size ≤ cur.size) : (Go.Sort.putCells id 0 F cur).toList.take F.size = F.toList := by
  apply List.ext_getElem?
  intro i
  by_cases hi : i < F.size
  · rw [List.getElem?_take_of_lt hi]
    unfold Go.Sort.putCells
    rw [Array.getElem?_toList, Array.getElem?_mapIdx, Array.getElem?_eq_getElem (by omega : i < cur.size)]
    simp only [Option.map_some, Nat.zero_le, Nat.zero_add, hi, and_self, if_true, Nat.sub_zero, id]
    rw [getElem!_pos F i hi, Array.getElem?_toList, Array.getElem?_eq_getElem hi]
  · rw [List.getElem?_eq_none (by rw [List.length_take]; omega), List.getElem?_eq_none (by rw [Array.length_toList]; omega)]
theorem sort_heap (w : World) (g n : Nat) (F : Array Value) (os : Array Obj) (k : Nat) (hk : k < w.heap.size) : (Go.Sort.grow (Go.Sort.putRow id (Go.Sort.ahead w n) g 0 F) os).heap[k]? = if k = g then (w.heap[k]?).map (Go.Sort.onCells (Go.Sort.putCells id 0 F)) else w.heap[k]? := by
  have hs : (Go.Sort.putRow id (Go.Sort.ahead w n) g 0 F).heap.size = w.heap.size := by
    unfold Go.Sort.putRow Go.Sort.mapBlock
    simp [Go.Sort.ahead]
  rw [Go.Sort.heap_grow_old _ os (by rw [hs]; exact hk)]
  unfold Go.Sort.putRow Go.Sort.mapBlock
  simp only [Array.getElem?_modify]
  by_cases e : k = g
  · subst e
    simp only [if_true]
    rfl
  · rw [if_neg e, if_neg (fun q => e q.symm)]
    rfl
/-- In order, none ahead of one that stands in front of it. -/
def Sorted (l : List Du) : Prop := ∀ i j, i < j → j < l.length → ¬ (duAt l j).lt (duAt l i)
theorem sortT_sort : sortT 67 = some [1, 12] := by kernel_rfl
theorem sortArgs (v1 v2 s : Value) : ArgR v1 v2 [1, 12] #[s, v1] #[s, v2] := by
  refine ⟨rfl, fun i hi => ?_, fun i hi => ?_⟩
  · match i, hi with
    | 0, _ => rfl
    | 1, hi => exact absurd (by simp) hi
    | i + 2, _ => simp
  · rcases List.mem_cons.1 hi with rfl | hi
    · right; exact ⟨rfl, rfl⟩
    · rcases List.mem_cons.1 hi with rfl | hi
      · left; simp
      · cases hi
set_option maxHeartbeats 1600000 in
set_option maxRecDepth 100000 in
theorem implSort0 (g cap : Nat) (l : List Du) (base : Nat) (w : World) (hT : l.length ≤ 1048576) (h : DuRow base w (.slice (some ⟨g, 0, none⟩) l.length cap) l) :
    Calls Try.prog 67 #[.slice (some ⟨g, 0, none⟩) l.length cap, .func (.func 80) #[] #[]] w fun e w' => e = .returned (.tuple #[]) ∧ ∃ d' n os, Go.Sort.PermIn 0 l.length (l.map Du.pair).toArray d' ∧ Go.Sort.SortedIn (ltOf duCf) 0 l.length d' ∧ w' = sortWorldK duEnc 2 w g 0 n d' os := by
  have hg := World.ownsRow.lt h g rfl
  have eg : ∀ args w, (callFunc 80 args).run Try.prog w = .ok (.enter 80 args) w := enters_of Try.func80 (by kernel_rfl) rfl
  have hsz : (l.map Du.pair).toArray.size = l.length := by simp
  have hcon := AnyQ.slices_SortFunc Try.sortA 2 Try.isAgg34 Try.sizeOf34 duEnc (fun _ => rfl) (fun x v hv => by simp [duEnc] at hv; rcases hv with rfl | rfl <;> rfl) duCf duSwo 80 #[] g 0 cap (l.map Du.pair).toArray w eg (duLays g 0 _ w) (du_holds h) hg.2 (by rw [hsz]; omega)
  change Calls Try.prog 67 _ _ _ at hcon
  rw [hsz] at hcon
  exact hcon
set_option maxHeartbeats 1600000 in
theorem implSort (g cap : Nat) (l : List Du) (base : Nat) (w : World) (hT : l.length ≤ 1048576) (h : DuRow base w (.slice (some ⟨g, 0, none⟩) l.length cap) l) :
    Calls Try.prog 67 #[.slice (some ⟨g, 0, none⟩) l.length cap, .func (.methodOf 34 "loop.example/g00316/impl.order") #[] #[]] w fun e w' => e = .returned (.tuple #[]) ∧ ∃ l', l'.Perm l ∧ Sorted l' ∧ DuRow base w' (.slice (some ⟨g, 0, none⟩) l'.length cap) l' ∧ Below g w w' ∧ ∀ k, k ≠ g → k < w.heap.size → w'.heap[k]? = w.heap[k]? := by
  have hg := World.ownsRow.lt h g rfl
  have hsz : (l.map Du.pair).toArray.size = l.length := by simp
  refine calls_sim sortSim sortT_sort (sortArgs _ _ _) (fun e w' hh => ⟨_, hh.1⟩) ((implSort0 g cap l base w hT h).mono ?_)
  rintro e w' ⟨rfl, d', n, os, hp, hs, rfl⟩
  refine ⟨rfl, d'.toList.map unpair, ?_, ?_, ?_, ?_, ?_⟩
  · have h3 := hp.2.2
    have e1 : (d'.extract 0 l.length).toList = d'.toList := by
      rw [Array.toList_extract]
      have : d'.toList.length = l.length := by rw [Array.length_toList, hp.1, hsz]
      rw [← this]
      simp [List.extract, List.take_of_length_le]
    have e2 : ((l.map Du.pair).toArray.extract 0 l.length).toList = l.map Du.pair := by
      rw [Array.toList_extract]
      simp [List.extract, List.take_of_length_le]
    rw [e1, e2] at h3
    have h4 := h3.map unpair
    rw [List.map_map] at h4
    have : unpair ∘ Du.pair = id := rfl
    rw [this, List.map_id] at h4
    exact h4
  · intro i j hij hj
    have hl : d'.size = l.length := by rw [hp.1, hsz]
    have hj' : j < l.length := by rw [List.length_map, Array.length_toList, hl] at hj; exact hj
    have := hs i j (Nat.zero_le _) hij hj'
    rw [duLt] at this
    have at' : ∀ k, k < l.length → duAt (d'.toList.map unpair) k = unpair d'[k]! := by
      intro k hk
      rw [duAt_lt (by rw [List.length_map, Array.length_toList, hl]; exact hk), List.getElem_map, getElem!_pos _ _ (by rw [hl]; exact hk)]
      rfl
    rw [at' j hj', at' i (by omega)]
    exact of_decide_eq_false this
  · have hl : d'.size = l.length := by rw [hp.1, hsz]
    have hlen : (d'.toList.map unpair).length = l.length := by rw [List.length_map, Array.length_toList, hl]
    have hback : (d'.toList.map unpair).map Du.pair = d'.toList := by
      rw [List.map_map]
      have : Du.pair ∘ unpair = id := rfl
      rw [this, List.map_id]
    have hF : (Go.Sort.flatK duEnc 2 d').toList = ducells (d'.toList.map unpair) := by
      have := flat_du (d'.toList.map unpair)
      rw [hback] at this
      exact this
    rcases h.2 with ⟨e, _⟩ | ⟨g', cap', cur, e, q1, q2, q3, q4, q5, q6⟩
    · cases e
    · cases e
      unfold DuRow
      rw [hlen]
      refine ⟨by rw [ducells_length, hlen], .inr ⟨g, cap, Go.Sort.putCells id 0 (Go.Sort.flatK duEnc 2 d') cur, rfl, q1, ?_, q3, q4, ?_, ?_⟩⟩
      · show (Go.Sort.grow (Go.Sort.putRow id (Go.Sort.ahead w n) g 0 (Go.Sort.flatK duEnc 2 d')) os).heap[g]? = _
        rw [sort_heap w g n _ os g hg.2, if_pos rfl, q2]
        rfl
      · unfold Go.Sort.putCells
        rw [Array.size_mapIdx, q5]
      · have := take_put (Go.Sort.flatK duEnc 2 d') cur (by rw [Go.Sort.size_flatK, hl, q5]; omega)
        rw [Go.Sort.size_flatK, hl, hF] at this
        exact this
  · refine ⟨rfl, rfl, rfl, ?_, fun k hk => ?_⟩
    · show w.heap.size ≤ (Go.Sort.grow _ os).heap.size
      rw [Go.Sort.size_grow]
      have : (Go.Sort.putRowK duEnc 2 (Go.Sort.ahead w n) g 0 d').heap.size = w.heap.size := by
        unfold Go.Sort.putRowK Go.Sort.putRow Go.Sort.mapBlock
        simp [Go.Sort.ahead]
      rw [this]
      exact Nat.le_add_right _ _
    · have := sort_heap w g n (Go.Sort.flatK duEnc 2 d') os k (by omega)
      rw [if_neg (by omega)] at this
      exact this
  · intro k hk hk2
    have := sort_heap w g n (Go.Sort.flatK duEnc 2 d') os k hk2
    rw [if_neg hk] at this
    exact this
end Go.Proofs.Ytdoijemkbjkeeaa

import Derived.Test.YtkocbfikcjgigaaGreatSimRun
/-
  Two runs that part in one function value alone: any step, any run, whole calls. By the verifier.
-/
namespace Go.Proofs.YtkocbfikcjgigaaGreat
open Go Go.Shelf
variable {P : Program} {T : FuncId → Option (List Tmp)} {v1 v2 : Value} {g0 : FuncId}

theorem fn_of {g : FuncId} {G : List Tmp} (h : okFn P T g G = true) : ∃ fn c, P.funcs[g]? = some fn ∧ fn.body = some c ∧ okCode T G c = true ∧ fn.results.toList.all (resOk G) = true := by
  unfold okFn at h
  cases hf : P.funcs[g]? with
  | none => rw [hf] at h; cases h
  | some fn =>
    rw [hf] at h
    simp only [Bool.and_eq_true] at h
    cases hb : fn.body with
    | none => rw [hb] at h; exact absurd h.1.1 (by simp)
    | some c => rw [hb] at h; exact ⟨fn, c, rfl, hb, h.1.1, h.2⟩
theorem argsOk_at {F G : List Tmp} : ∀ (l : List Operand) (n j : Nat) (x : Operand), argsOk F G l n = true → l[j]? = some x → (if G.contains (n + j) then heldX F x else cleanX F x) = true
  | [], _, j, _, _, h => by simp at h
  | y :: r, n, 0, x, ha, h => by
    simp only [List.getElem?_cons_zero, Option.some.injEq] at h
    subst h
    simp only [argsOk, Bool.and_eq_true] at ha
    exact ha.1
  | y :: r, n, j + 1, x, ha, h => by
    simp only [List.getElem?_cons_succ] at h
    simp only [argsOk, Bool.and_eq_true] at ha
    have := argsOk_at r (n + 1) j x ha.2 h
    rwa [show n + 1 + j = n + (j + 1) by omega] at this
/-- Arguments that part in the function value alone. -/
def ArgR (v1 v2 : Value) (G : List Tmp) (a a' : Array Value) : Prop := TmpR v1 v2 G a a'
theorem enterR {G : List Tmp} {a a' : Array Value} (h : ArgR v1 v2 G a a') (n : Nat) : TmpR v1 v2 G (a ++ Array.replicate (n - a.size) undef) (a' ++ Array.replicate (n - a'.size) undef) := by
  have e : ∀ i, a.size ≤ i → (a ++ Array.replicate (n - a.size) undef)[i]? = (a' ++ Array.replicate (n - a'.size) undef)[i]? ∧ ∀ x, (a ++ Array.replicate (n - a.size) undef)[i]? = some x → x = undef := by
    intro i hi
    rw [Array.getElem?_append_right hi, Array.getElem?_append_right (by rw [← h.size]; exact hi), h.size]
    refine ⟨rfl, fun x hx => ?_⟩
    rw [Array.getElem?_replicate] at hx
    split at hx
    · exact (Option.some.inj hx).symm
    · cases hx
  refine ⟨by simp [h.size], fun i hi => ?_, fun i hi => ?_⟩
  · by_cases q : i < a.size
    · rw [Array.getElem?_append_left q, Array.getElem?_append_left (by rw [← h.size]; exact q)]
      exact h.off i hi
    · exact (e i (by omega)).1
  · by_cases q : i < a.size
    · rw [Array.getElem?_append_left q, Array.getElem?_append_left (by rw [← h.size]; exact q)]
      exact h.on i hi
    · exact .inl (e i (by omega))
theorem enter_is {g : FuncId} {fn : Func} {c : Code} (hf : P.funcs[g]? = some fn) (hb : fn.body = some c) (args : Array Value) : Frame.enter P g args .normal = fx g (args ++ Array.replicate (fn.ntmps - args.size) undef) [.code c] .run := by
  simp [Frame.enter, fx, hf, hb]

section
variable {fn : FuncId} {F : List Tmp} {t t' : Array Value} {stk stk' cs : List Frame} {w w' : World}
theorem went_move {todo todo1 : List Item} {w1 : World} (hF : T fn = some F) (hR : TmpR v1 v2 F t t') (hs : StkR T v1 v2 stk stk') (hi : todo1.all (okItem T F) = true) (h : ∀ t cs, step P (lone (fx fn t todo .run) cs w) = .next (lone (fx fn t todo1 .run) cs w1)) : Went P T v1 v2 fn t t' todo .run stk stk' cs w :=
  .inr (.inr ⟨fn, t, t', todo1, .run, stk, stk', w1, h t _, h t' _, ⟨F, hF, hR, hi⟩, hs⟩)
theorem went_put {todo todo1 : List Item} {w1 : World} {t1 t1' : Array Value} (hF : T fn = some F) (hR : TmpR v1 v2 F t1 t1') (hs : StkR T v1 v2 stk stk') (hi : todo1.all (okItem T F) = true) {m1 : FrameMode} (h : ∀ cs, step P (lone (fx fn t todo .run) cs w) = .next (lone (fx fn t1 todo1 m1) cs w1)) (h' : ∀ cs, step P (lone (fx fn t' todo .run) cs w) = .next (lone (fx fn t1' todo1 m1) cs w1)) : Went P T v1 v2 fn t t' todo .run stk stk' cs w :=
  .inr (.inr ⟨fn, t1, t1', todo1, m1, stk, stk', w1, h _, h' _, ⟨F, hF, hR, hi⟩, hs⟩)
/-- A function is entered. -/
theorem went_enter (S : SimOk P T v1 v2 g0) {ops : Array Oper} {i : Nat} {rest : List Nat} {k : List Item} {o : Oper} (hF : T fn = some F) (hR : TmpR v1 v2 F t t') (hs : StkR T v1 v2 stk stk') (hi : (Item.inRegion ops (i :: rest) :: k).all (okItem T F) = true) (ho : ops[i]? = some o) (hd : dstOk F o = true) (hw : Region.wanted o (yielded ops t) = true) (hw' : Region.wanted o (yielded ops t') = true)
    {g : FuncId} {G : List Tmp} (hG : T g = some G) {a a' : Array Value} (ha : ArgR v1 v2 G a a') (h : (execOp (Act.mk t []).eval o).run P w = .ok (.enter g a) w) (h' : (execOp (Act.mk t' []).eval o).run P w = .ok (.enter g a') w) : Went P T v1 v2 fn t t' (.inRegion ops (i :: rest) :: k) .run stk stk' cs w := by
  obtain ⟨f, c, hf, hb, hc, -⟩ := fn_of (S.fns g G hG)
  have s1 := op_enter (fn := fn) (rest := rest) (k := k) (cs := stk ++ [c0 P]) ho hw h
  have s2 := op_enter (fn := fn) (rest := rest) (k := k) (cs := stk' ++ cs) ho hw' h'
  rw [enter_is hf hb] at s1 s2
  exact .inr (.inr ⟨g, _, _, [.code c], .run, fx fn t (.inRegion ops (i :: rest) :: k) .run :: stk, fx fn t' (.inRegion ops (i :: rest) :: k) .run :: stk', w, s1, s2, ⟨G, hG, enterR ha _, by simp [okItem, hc]⟩, ⟨fn, t, t', ops, i, rest, k, o, F, rfl, rfl, hF, hR, hi, ho, hd⟩, hs⟩)

/-- An operation that looks at no slot of the function value. -/
theorem went_same (S : SimOk P T v1 v2 g0) {ops : Array Oper} {i : Nat} {rest : List Nat} {k : List Item} {o : Oper} (hF : T fn = some F) (hR : TmpR v1 v2 F t t') (hs : StkR T v1 v2 stk stk') (hi : (Item.inRegion ops (i :: rest) :: k).all (okItem T F) = true) (ho : ops[i]? = some o) (hd : dstOk F o = true) (hw : Region.wanted o (yielded ops t) = true) (hw' : Region.wanted o (yielded ops t') = true)
    (he : execOp (Act.mk t []).eval o = execOp (Act.mk t' []).eval o) (hsh : Shape ((execOp (Act.mk t []).eval o).run P w)) : Went P T v1 v2 fn t t' (.inRegion ops (i :: rest) :: k) .run stk stk' cs w := by
  have hi' : (Item.inRegion ops rest :: k).all (okItem T F) = true := by simpa [okItem] using hi
  cases hr : (execOp (Act.mk t []).eval o).run P w with
  | ok n w1 =>
    have hr' := hr
    rw [he] at hr'
    rw [hr] at hsh
    cases n <;> simp only [Shape] at hsh
    case value v => exact went_put hF (hR.put hd v) hs hi' (fun _ => op_value ho hw hr) (fun _ => op_value ho hw' hr')
    case skip => exact went_put hF (hR.putU o.dst) hs hi' (fun _ => op_skip ho hw hr) (fun _ => op_skip ho hw' hr')
  | halt h w1 =>
    have hr' := hr
    rw [he] at hr'
    cases h with
    | panic v => exact went_put hF hR hs hi (fun _ => op_panic ho hw hr) (fun _ => op_panic ho hw' hr')
    | goexit => exact went_put hF hR hs hi (fun _ => op_goexit ho hw hr) (fun _ => op_goexit ho hw' hr')
    | blocked => exact .inr (.inl (op_blocked ho hw hr))
    | waiting => exact .inr (.inl (op_waiting ho hw hr))
    | throw m => exact .inr (.inl (op_throw ho hw hr))
    | fatal m => exact (op_fatal ho hw hr).elim .inl fun q => .inr (.inl q)
    | exit c => exact .inl (op_exit ho hw hr)
    | stuck s => exact .inl (op_stuck ho hw hr)
    | unsupported u =>
      by_cases hu : ∃ g, u = .initOrder g
      · obtain ⟨g, rfl⟩ := hu
        rcases op_init (fn := fn) (rest := rest) (k := k) (cs := stk ++ [c0 P]) ho hw (S.early g) hr with ⟨w2, e, q⟩ | ⟨e, q⟩
        · rcases op_init (fn := fn) (rest := rest) (k := k) (cs := stk' ++ cs) ho hw' (S.early g) hr' with ⟨w3, e', q'⟩ | ⟨e', _⟩
          · rw [e] at e'
            cases e'
            exact .inr (.inr ⟨fn, t, t', _, .run, stk, stk', w2, q, q', ⟨F, hF, hR, hi⟩, hs⟩)
          · rw [e] at e'; cases e'
        · exact .inl q
      · exact .inl (op_unsup ho hw (fun g e => hu ⟨g, e⟩) hr)
end
end Go.Proofs.YtkocbfikcjgigaaGreat

/-
  Two runs that part in one function value alone: whole calls. By the verifier.
-/
namespace Go.Proofs.YtkocbfikcjgigaaGreat
open Go Go.Shelf
variable {P : Program} {T : FuncId → Option (List Tmp)} {v1 v2 : Value} {g0 : FuncId}
variable {fn : FuncId} {F : List Tmp} {t t' : Array Value} {stk stk' cs : List Frame} {w w' : World}

theorem all_clean {l : List Operand} (h : l.all (cleanX F) = true) : ∀ x ∈ l, cleanX F x = true := List.all_eq_true.1 h
theorem call_value {o : Oper} {c : Call} {x : Operand} (ho : o.op = .call c) (hc : c.callee = .value x) (ρ : Operand → Value) : execOp ρ o = (do let d ← Deferred.ofValue (ρ x) (c.args.map ρ); invoke d.target d.args) := by
  simp only [execOp, ho, resolve, hc]
theorem call_static {o : Oper} {c : Call} {g : FuncId} {G : List Tmp} (hg : okFn P T g G = true) (ho : o.op = .call c) (hc : c.callee = .value (.func g)) (a : Act) (w : World) : (execOp a.eval o).run P w = .ok (.enter g (c.args.map a.eval)) w := by
  rw [call_value ho hc]
  have : a.eval (.func g) = .func (.func g) #[] #[] := rfl
  rw [this, Sem.run_bind]
  simp only [Deferred.ofValue, Sem.run_pure, Result.andThen_ok, invoke]
  have := callFunc_ok hg (c.args.map a.eval) w
  simpa using this
theorem sim_op (S : SimOk P T v1 v2 g0) {ops : Array Oper} {i : Nat} {rest : List Nat} {k : List Item} {o : Oper} (hF : T fn = some F) (hR : TmpR v1 v2 F t t') (hs : StkR T v1 v2 stk stk') (hi : (Item.inRegion ops (i :: rest) :: k).all (okItem T F) = true) (ho : ops[i]? = some o) (hok : okOp T F o = true) (hw : Region.wanted o (yielded ops t) = true) (hw' : Region.wanted o (yielded ops t') = true) : Went P T v1 v2 fn t t' (.inRegion ops (i :: rest) :: k) .run stk stk' cs w := by
  have hi' : (Item.inRegion ops rest :: k).all (okItem T F) = true := by simpa [okItem] using hi
  have mv : ∀ x, (o.op = .move x ∨ o.op = .assign x) → ((cleanX F x && dstOk F o) || (heldX F x && dstIn F o)) = true → Went P T v1 v2 fn t t' (.inRegion ops (i :: rest) :: k) .run stk stk' cs w := by
    intro x hx hb
    have r : ∀ (a : Act), (execOp a.eval o).run P w = .ok (.value (a.eval x)) w := by
      intro a
      rcases hx with hx | hx <;> simp [execOp, hx]
    simp only [Bool.or_eq_true, Bool.and_eq_true] at hb
    rcases hb with ⟨h1, h2⟩ | ⟨h1, h2⟩
    · refine went_put hF (hR.put h2 ((Act.mk t []).eval x)) hs hi' (fun _ => op_value ho hw (r _)) (fun _ => ?_)
      rw [hR.eval h1]
      exact op_value ho hw' (r _)
    · rcases hR.held h1 with ⟨q1, q2⟩ | ⟨q1, q2⟩
      · have r1 := r (Act.mk t [])
        have r2 := r (Act.mk t' [])
        rw [q1] at r1
        rw [q2] at r2
        exact went_put hF (hR.putU o.dst) hs hi' (fun _ => op_value ho hw r1) (fun _ => op_value ho hw' r2)
      · have r1 := r (Act.mk t [])
        have r2 := r (Act.mk t' [])
        rw [q1] at r1
        rw [q2] at r2
        exact went_put hF (hR.putF h2) hs hi' (fun _ => op_value ho hw r1) (fun _ => op_value ho hw' r2)
  have pl : (plainOp o.op && dstOk F o && o.op.operands.toList.all (cleanX F)) = true → Went P T v1 v2 fn t t' (.inRegion ops (i :: rest) :: k) .run stk stk' cs w := by
    intro hb
    simp only [Bool.and_eq_true] at hb
    have hns : ∀ cs b, o.op ≠ .select cs b := by
      intro cs b e
      rw [e] at hb
      exact absurd hb.1.1 (by simp [plainOp])
    exact went_same S hF hR hs hi ho hb.1.2 hw hw' (execOp_congr o hns fun x hx => hR.eval (all_clean hb.2 x (by simpa using hx))) (shape_plain hb.1.1 _ w)
  have cl : ∀ c, o.op = .call c → (dstOk F o && okCall T F c) = true → Went P T v1 v2 fn t t' (.inRegion ops (i :: rest) :: k) .run stk stk' cs w := by
    intro c hc hb
    simp only [Bool.and_eq_true] at hb
    obtain ⟨hd, hb⟩ := hb
    have hns : ∀ cs b, o.op ≠ .select cs b := fun cs b e => by rw [hc] at e; cases e
    unfold okCall at hb
    split at hb
    · next hq =>
      refine went_same S hF hR hs hi ho hd hw hw' (execOp_congr o hns fun x hx => hR.eval ?_) (shape_len hc hq _ w)
      rw [hc] at hx
      simp only [Op.operands, Call.operands, hq] at hx
      exact all_clean hb x (by simpa using hx)
    · next g hq =>
      split at hb
      · next G hG =>
        refine went_enter S hF hR hs hi ho hd hw hw' hG (a := c.args.map (Act.mk t []).eval) (a' := c.args.map (Act.mk t' []).eval) ⟨by simp, fun j hj => ?_, fun j hj => ?_⟩ (call_static (S.fns g G hG) hc hq _ w) (call_static (S.fns g G hG) hc hq _ w)
        · rw [Array.getElem?_map, Array.getElem?_map]
          cases e : c.args[j]? with
          | none => rfl
          | some x =>
            have := argsOk_at c.args.toList 0 j x hb (by simpa using e)
            rw [Nat.zero_add, if_neg (fun q => hj (is_cont q))] at this
            simp only [Option.map_some, hR.eval this]
        · rw [Array.getElem?_map, Array.getElem?_map]
          cases e : c.args[j]? with
          | none => exact .inl ⟨rfl, fun x hx => by cases hx⟩
          | some x =>
            have := argsOk_at c.args.toList 0 j x hb (by simpa using e)
            rw [Nat.zero_add, if_pos (List.contains_iff_mem.2 hj)] at this
            rcases hR.held this with ⟨q1, q2⟩ | ⟨q1, q2⟩
            · exact .inl ⟨by simp [q1, q2], fun y hy => by simpa [q1] using hy.symm⟩
            · exact .inr ⟨by simp [q1], by simp [q2]⟩
      · cases hb
    · next s hq =>
      simp only [Bool.and_eq_true, beq_iff_eq] at hb
      obtain ⟨⟨h1, h2⟩, h3⟩ := hb
      have ea : c.args.map (Act.mk t []).eval = c.args.map (Act.mk t' []).eval := Array.map_congr_left fun x hx => hR.eval (all_clean h3 x (by simpa using hx))
      rcases hR.held (x := .tmp s) h1 with ⟨q1, q2⟩ | ⟨q1, q2⟩
      · refine .inl (op_stuck (s := "call: function value expected") (w' := w) ho hw ?_)
        rw [call_value hc hq, q1, Sem.run_bind]
        rfl
      · refine went_enter S hF hR hs hi ho hd hw hw' S.one (a := c.args.map (Act.mk t []).eval) (a' := c.args.map (Act.mk t []).eval) ⟨rfl, fun _ _ => rfl, fun j hj => by cases hj⟩ ?_ ?_
        · rw [call_value hc hq, q1]
          exact S.e1 _ w (by simpa using h2)
        · rw [call_value hc hq, q2, ← ea]
          exact S.e2 _ w (by simpa using h2)
    · cases hb
  unfold okOp at hok
  split at hok
  · next x hx => exact mv x (.inl hx) hok
  · next x hx => exact mv x (.inr hx) hok
  · next c hc => exact cl c hc hok
  · exact pl hok
theorem sim_run (S : SimOk P T v1 v2 g0) {todo : List Item} (hF : T fn = some F) (hR : TmpR v1 v2 F t t') (hs : StkR T v1 v2 stk stk') (hi : todo.all (okItem T F) = true) : Went P T v1 v2 fn t t' todo .run stk stk' cs w := by
  cases todo with
  | nil => exact went_put hF hR hs rfl (m1 := .returning) (fun _ => step_end (b := fx fn #[] [] .run) (a := Act.mk t [])) (fun _ => step_end (b := fx fn #[] [] .run) (a := Act.mk t' []))
  | cons it k =>
    have hi0 := hi
    simp only [List.all_cons, Bool.and_eq_true] at hi
    obtain ⟨h1, h2⟩ := hi
    cases it with
    | code c =>
      cases c with
      | skip => exact went_move hF hR hs h2 (fun t _ => step_skip (b := fx fn #[] [] .run) (a := Act.mk t []))
      | label l => exact went_move hF hR hs h2 (fun t _ => step_label (b := fx fn #[] [] .run) (a := Act.mk t []))
      | seq a b =>
        simp only [okItem, okCode, Bool.and_eq_true] at h1
        exact went_move hF hR hs (by simp only [List.all_cons, Bool.and_eq_true]; exact ⟨h1.1, h1.2, h2⟩) (fun t _ => step_seq (b := fx fn #[] [] .run) (a := Act.mk t []))
      | cond x a b =>
        simp only [okItem, okCode, Bool.and_eq_true] at h1
        cases hx : (Act.mk t []).eval x with
        | bool q =>
          have hx' : (Act.mk t' []).eval x = .bool q := by rw [← hR.eval h1.1.1, hx]
          refine went_put hF hR hs (todo1 := .code (if q then a else b) :: k) ?_ (m1 := .run) (fun _ => step_cond (b := fx fn #[] [] .run) (a := Act.mk t []) hx) (fun _ => step_cond (b := fx fn #[] [] .run) (a := Act.mk t' []) hx')
          cases q <;> simp only [List.all_cons, okItem, Bool.and_eq_true] <;> first | exact ⟨h1.2, h2⟩ | exact ⟨h1.1.2, h2⟩
        | _ =>
          refine .inl ⟨.stuck "cond: bool expected" ((fx fn t (.code (.cond x a b) :: k) .run).pos P), w, step_lone_ended ?_⟩
          have e : (fx fn t (.code (.cond x a b) :: k) .run).eval x = (Act.mk t []).eval x := by cases x <;> rfl
          rw [hx] at e
          simp only [fx] at e
          simp [stepG, stepG.exec, fx, e]
      | block id c => exact went_move hF hR hs (by simp only [List.all_cons, Bool.and_eq_true]; exact ⟨h1, rfl, h2⟩) (fun t _ => step_block (b := fx fn #[] [] .run) (a := Act.mk t []))
      | loop c => exact went_move hF hR hs (by simp only [List.all_cons, Bool.and_eq_true]; exact ⟨h1, h1, h2⟩) (fun t _ => step_loop (b := fx fn #[] [] .run) (a := Act.mk t []))
      | exit id =>
        cases he : exitTo id k with
        | none =>
          refine .inl ⟨.stuck "exit, goto: no such block or label" ((fx fn t (.code (.exit id) :: k) .run).pos P), w, step_lone_ended ?_⟩
          simp [stepG, stepG.exec, fx, he]
        | some k' =>
          refine went_move hF hR hs (todo1 := k') ?_ (fun t _ => step_exit (b := fx fn #[] [] .run) (a := Act.mk t []) he)
          clear hi0 h1
          induction k with
          | nil => simp [exitTo] at he
          | cons y r ih =>
            simp only [List.all_cons, Bool.and_eq_true] at h2
            cases y <;> simp only [exitTo] at he <;> first | exact ih h2.2 he | skip
            split at he
            · cases he; exact h2.2
            · exact ih h2.2 he
      | ret => exact went_put hF hR hs hi0 (m1 := .returning) (fun _ => step_ret (b := fx fn #[] [] .run) (a := Act.mk t [])) (fun _ => step_ret (b := fx fn #[] [] .run) (a := Act.mk t' []))
      | region id ops draw =>
        have h1' : ∀ l, (Item.inRegion ops l :: k).all (okItem T F) = true := fun l => by simp only [List.all_cons, Bool.and_eq_true]; exact ⟨h1, h2⟩
        cases draw with
        | false => exact went_move hF hR hs (h1' _) (fun t _ => step_region (b := fx fn #[] [] .run) (a := Act.mk t []))
        | true => exact went_move hF hR hs (h1' _) (fun t _ => step_region_draw (b := fx fn #[] [] .run) (a := Act.mk t []))
      | _ => cases h1
    | inBlock id => exact went_move hF hR hs h2 (fun t _ => step_inBlock (b := fx fn #[] [] .run) (a := Act.mk t []))
    | inLoop c => exact went_move hF hR hs (by simp only [List.all_cons, Bool.and_eq_true]; exact ⟨h1, h1, h2⟩) (fun t _ => step_inLoop (b := fx fn #[] [] .run) (a := Act.mk t []))
    | inRegion ops l =>
      cases l with
      | nil => exact went_move hF hR hs h2 (fun t _ => step_region_end (b := fx fn #[] [] .run) (a := Act.mk t []))
      | cons i rest =>
        have hi' : (Item.inRegion ops rest :: k).all (okItem T F) = true := by simpa [okItem] using hi0
        cases ho : ops[i]? with
        | none =>
          refine went_move (w1 := w) hF hR hs hi' (fun t cs => ?_)
          have := step_op_skip (P := P) (b := fx fn #[] [] .run) (a := Act.mk t []) (k := k) (cs := cs) (w := w) (ops := ops) (i := i) (rest := rest) (by simp [ho])
          rw [ho] at this
          exact this
        | some o =>
          have hok : okOp T F o = true := by
            have : o ∈ ops.toList := by
              have := Array.mem_of_getElem? ho
              simpa using this
            exact List.all_eq_true.1 h1 o this
          have hww := hR.wanted S.n1 S.n2 ops o
          cases hw : Region.wanted o (yielded ops t) with
          | false =>
            refine went_put (w1 := w) hF (hR.putU o.dst) hs hi' (m1 := .run) (fun cs => ?_) (fun cs => ?_)
            · have := step_op_skip (P := P) (b := fx fn #[] [] .run) (a := Act.mk t []) (k := k) (cs := cs) (w := w) (ops := ops) (i := i) (rest := rest) (by simpa [ho] using hw)
              rw [ho, at_put] at this
              exact this
            · rw [hw] at hww
              have := step_op_skip (P := P) (b := fx fn #[] [] .run) (a := Act.mk t' []) (k := k) (cs := cs) (w := w) (ops := ops) (i := i) (rest := rest) (by simpa [ho] using hww.symm)
              rw [ho, at_put] at this
              exact this
          | true => exact sim_op S hF hR hs hi0 ho hok hw (by rw [← hww, hw])
    | _ => cases h1
end Go.Proofs.YtkocbfikcjgigaaGreat

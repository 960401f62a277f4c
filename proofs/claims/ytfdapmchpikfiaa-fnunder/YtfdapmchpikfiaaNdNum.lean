/-
  The walks of the program's numbersOn and PathOf. By the verifier, by program.
-/
import Derived.Test.YtfdapmchpikfiaaNdPathF
import Derived.Test.YtfdapmchpikfiaaOpVal
import Derived.Test.YtfdapmchpikfiaaOpStep
import Derived.Test.YtfdapmchpikfiaaIntApp
namespace Go.Proofs.Ytfdapmchpikfiaa
open Go.RowKit

theorem asStep (v : Value) (w : World) : (Instr.typeAssert (.iface 76 v) 59 76 true).run Try.prog w = .ok (.tuple #[v, .bool true]) w := by kernel_rfl
theorem topNoStep (v : Value) (w : World) : (Instr.typeAssert (.iface 77 v) 59 76 true).run Try.prog w = .ok (.tuple #[.agg #[.int .i64 0, .nilIface], .bool false]) w := by kernel_rfl
theorem asTop (v : Value) (w : World) : (Instr.typeAssert (.iface 77 v) 59 77 true).run Try.prog w = .ok (.tuple #[v, .bool true]) w := by kernel_rfl
theorem noStep (v : Value) (w : World) : (Instr.typeAssert (.iface 57 v) 59 76 true).run Try.prog w = .ok (.tuple #[.agg #[.int .i64 0, .nilIface], .bool false]) w := by kernel_rfl
theorem noTop (v : Value) (w : World) : (Instr.typeAssert (.iface 57 v) 59 77 true).run Try.prog w = .ok (.tuple #[.agg #[], .bool false]) w := by kernel_rfl
theorem field0_run {o : Oper} {a : Act} {w : World} {D : Nat} (t : Tmp) (ho : o.op = .fieldAddr 76 (.tmp t) 0) (hx : a.tmps.getD t undef = .pointer (some ⟨D, 0, none⟩)) : (execOp a.eval o).run Try.prog w = .ok (.value (.pointer (some ⟨D, 0, none⟩))) w := by
  simp only [execOp, ho]
  rw [Sem.run_bind, show a.eval (.tmp t) = _ from hx]
  have : (Instr.fieldAt 76 (.pointer (some ⟨D, 0, none⟩)) 0).run Try.prog w = .ok (.pointer (some ⟨D, 0, none⟩)) w := by kernel_rfl
  rw [this]
  rfl
theorem field1_run {o : Oper} {a : Act} {w : World} {D : Nat} (t : Tmp) (ho : o.op = .fieldAddr 76 (.tmp t) 1) (hx : a.tmps.getD t undef = .pointer (some ⟨D, 0, none⟩)) : (execOp a.eval o).run Try.prog w = .ok (.value (.pointer (some ⟨D, 1, none⟩))) w := by
  simp only [execOp, ho]
  rw [Sem.run_bind, show a.eval (.tmp t) = _ from hx]
  have : (Instr.fieldAt 76 (.pointer (some ⟨D, 0, none⟩)) 1).run Try.prog w = .ok (.pointer (some ⟨D, 1, none⟩)) w := by simp [go_sem, Instr.fieldAt, Instr.sureAddr]
  rw [this]
  rfl
theorem loadInt_run {o : Oper} {a : Act} {w : World} {p : Addr} {z : Int} (t : Tmp) (ho : o.op = .load 2 (.tmp t)) (hx : a.tmps.getD t undef = .pointer (some p)) (c0 : w.cell? p = some (.int .i64 z)) : (execOp a.eval o).run Try.prog w = .ok (.value (.int .i64 z)) w := by
  have e : (Instr.loadAt 2 (.pointer (some p))).run Try.prog w = .ok (.int .i64 z) w := by simp [go_sem, Instr.loadAt, Instr.sureAddr, c0]
  simp only [execOp, ho]
  rw [Sem.run_bind, show a.eval (.tmp t) = _ from hx, e]
  rfl
theorem loadPath_run {o : Oper} {a : Act} {w : World} {p : Addr} {ty : TypeId} {tv : Value} (t : Tmp) (ho : o.op = .load 59 (.tmp t)) (hx : a.tmps.getD t undef = .pointer (some p)) (c0 : w.cell? p = some (.iface ty tv)) : (execOp a.eval o).run Try.prog w = .ok (.value (.iface ty tv)) w := by
  have e : (Instr.loadAt 59 (.pointer (some p))).run Try.prog w = .ok (.iface ty tv) w := by simp [go_sem, Instr.loadAt, Instr.sureAddr, c0]
  simp only [execOp, ho]
  rw [Sem.run_bind, show a.eval (.tmp t) = _ from hx, e]
  rfl
theorem buildInt_run {o : Oper} {a : Act} {w : World} {z : Int} (t : Tmp) (ho : o.op = .buildSlice 32 1 #[(0, .tmp t)]) (hx : a.tmps.getD t undef = .int .i64 z) : (execOp a.eval o).run Try.prog w = .ok (.value (.slice (some ⟨w.heap.size, 0, none⟩) 1 1)) (w.alloc (.cells #[.int .i64 z] 2)) := by
  have e : (Instr.buildSlice 32 1 #[(0, .int .i64 z)]).run Try.prog w = .ok (.slice (some ⟨w.heap.size, 0, none⟩) 1 1) (w.alloc (.cells #[.int .i64 z] 2)) := by simp [go_sem, Instr.buildSlice]
  simp only [execOp, ho, List.map_toArray, List.map_cons, List.map_nil]
  rw [Sem.run_bind, show a.eval (.tmp t) = _ from hx, e]
  rfl
theorem callNum_run {o : Oper} {a : Act} {w : World} {v : Value} (t : Tmp) (ho : o.op = .call { callee := .value (.func 37), args := #[.tmp t], argTypes := #[59] }) (hx : a.tmps.getD t undef = v) : (execOp a.eval o).run Try.prog w = .ok (.enter 37 #[v]) w := by
  have e : a.tmps[t]?.getD undef = v := by simpa using hx
  simp [execOp, ho, resolve, Deferred.ofValue, invoke, Act.eval, e]
theorem irow_one {b : Nat} (w : World) (z : Int) (hb : b ≤ w.heap.size) : IRow b (w.alloc (.cells #[.int .i64 z] 2)) (.slice (some ⟨w.heap.size, 0, none⟩) 1 1) [z] := by
  refine ⟨rfl, .inr ⟨w.heap.size, 1, #[.int .i64 z], rfl, hb, ?_, Nat.le_refl _, by decide, rfl, rfl⟩⟩
  show (w.heap.push _)[w.heap.size]? = _
  simp

set_option maxHeartbeats 3200000 in
set_option maxRecDepth 100000 in
theorem implNumNo (w : World) :
    Calls Try.prog 37 #[.iface 57 (.agg #[])] w fun e w' => (∃ v, e = .returned v ∧ IRow w.heap.size w' v []) ∧ Below w.heap.size w w' := by
  have h1 := noStep (.agg #[])
  have h2 := noTop (.agg #[])
  have R : Hid (IRow w.heap.size (w.alloc (.cells #[] 2)) (.slice (some ⟨w.heap.size, 0, none⟩) 0 0) [] ∧ Below w.heap.size w (w.alloc (.cells #[] 2))) := ⟨irow_built w _ (Nat.le_refl _), (Below.refl _ _).alloc (Nat.le_refl _) _⟩
  go_enter Try.func37, Try.ntmps37
  go_wp2
  go_ret
  exact ⟨⟨_, rfl, R.out.1⟩, R.out.2⟩
set_option maxHeartbeats 3200000 in
set_option maxRecDepth 100000 in
theorem implNumTop (w : World) :
    Calls Try.prog 37 #[.iface 77 (.agg #[])] w fun e w' => (∃ v, e = .returned v ∧ IRow w.heap.size w' v [0]) ∧ Below w.heap.size w w' := by
  have h1 := topNoStep (.agg #[])
  have h2 := asTop (.agg #[])
  have N : Hid (Boxed (w.alloc (.cells #[] 77)) w.heap.size #[] 77) := Boxed.new _ _ _
  have B : Hid (Below w.heap.size w ((w.alloc (.cells #[] 77)).setRow w.heap.size #[])) := below_setRow ((Below.refl _ _).alloc (Nat.le_refl _) _) (Nat.le_refl _) _
  go_enter Try.func37, Try.ntmps37
  go_upto_region 9 with (refine wpList_store_row rfl 77 (.tmp _) (.tmp _) rfl w.heap.size #[] rfl rfl _ _ N.out (by kernel_rfl) rfl (by simp) ?_)
  simp only [Act.put]
  generalize (w.alloc (.cells #[] 77)).setRow w.heap.size #[] = W at B ⊢
  have R : Hid (IRow w.heap.size (W.alloc (.cells #[.int .i64 0] 2)) (.slice (some ⟨W.heap.size, 0, none⟩) 1 1) [0] ∧ Below w.heap.size w (W.alloc (.cells #[.int .i64 0] 2))) := ⟨irow_one W 0 B.out.size, B.out.trans ((Below.refl _ _).alloc B.out.size _)⟩
  clear B N
  go_wp2
  go_ret
  exact ⟨⟨_, rfl, R.out.1⟩, R.out.2⟩
set_option maxHeartbeats 3200000 in
set_option maxRecDepth 100000 in
theorem implNumStep (n0 : Int) (ty : TypeId) (tv : Value) (P : List Int) (hP : P.length ≤ 1048576) (w : World) (I : ∀ w : World, Calls Try.prog 37 #[.iface ty tv] w fun e w' => (∃ v, e = .returned v ∧ IRow w.heap.size w' v P) ∧ Below w.heap.size w w') :
    Calls Try.prog 37 #[.iface 76 (.agg #[.int .i64 n0, .iface ty tv])] w fun e w' => (∃ v, e = .returned v ∧ IRow w.heap.size w' v (n0 :: P)) ∧ Below w.heap.size w w' := by
  have h1 := asStep (.agg #[.int .i64 n0, .iface ty tv])
  have I' : Hid (∀ w : World, Calls Try.prog 37 #[.iface ty tv] w fun e w' => (∃ v, e = .returned v ∧ IRow w.heap.size w' v P) ∧ Below w.heap.size w w') := I
  clear I
  obtain ⟨m, hm⟩ : ∃ m, P.length = m := ⟨_, rfl⟩
  have Hm : Hid (P.length = m) := hm
  rw [hm] at hP
  clear hm
  have N : Hid (Boxed (w.alloc (.cells #[.int .i64 0, .nilIface] 76)) w.heap.size #[.int .i64 0, .nilIface] 76) := Boxed.new _ _ _
  have X : Hid (Boxed ((w.alloc (.cells #[.int .i64 0, .nilIface] 76)).setRow w.heap.size #[.int .i64 n0, .iface ty tv]) w.heap.size #[.int .i64 n0, .iface ty tv] 76 ∧ Below w.heap.size w ((w.alloc (.cells #[.int .i64 0, .nilIface] 76)).setRow w.heap.size #[.int .i64 n0, .iface ty tv])) := ⟨setRow_heap _ _ _ _ _ _ (Boxed.new _ _ _), below_setRow ((Below.refl _ _).alloc (Nat.le_refl _) _) (Nat.le_refl _) _⟩
  go_enter Try.func37, Try.ntmps37
  go_upto_region 6 with (refine wpList_store_row rfl 76 (.tmp _) (.tmp _) rfl w.heap.size #[.int .i64 n0, .iface ty tv] rfl rfl _ _ N.out (by kernel_rfl) rfl (by simp [Value.oneCell']) ?_)
  simp only [Act.put]
  generalize (w.alloc (.cells #[.int .i64 0, .nilIface] 76)).setRow w.heap.size #[.int .i64 n0, .iface ty tv] = W at X ⊢
  have Hx : Hid (Below w.heap.size w W) := X.out.2
  generalize w.heap.size = D at X ⊢
  clear N h1
  refine region_lists (G := Unit) (by kernel_rfl) (by kernel_rfl) (by kernel_rfl) (fun i => if i = 2 then 6 else if i = 5 then 6 else if i = 6 then 7 else 99) (fun (_ : Nat → Bool) (_ : Unit) (x : World) => Below W.heap.size W x) (fun i _ x _ x' => (i ≠ 6 → Below x.heap.size x x') ∧ (i ≠ 2 → i ≠ 5 → i ≠ 6 → x' = x)) (fun kk y x u => ([fun _ _ u => u = .pointer (some ⟨D, 0, none⟩), fun _ _ u => u = .int .i64 n0, fun _ x u => ∃ a' c', u = .slice a' 1 c' ∧ IRow W.heap.size x u [n0], fun _ _ u => u = .pointer (some ⟨D, 1, none⟩), fun _ _ u => u = .iface ty tv, fun _ x u => ∃ a' c', u = .slice a' m c' ∧ IRow W.heap.size x u P, fun _ x u => ∃ a' c', u = .slice a' (m + 1) c' ∧ IRow W.heap.size x u (n0 :: P), fun _ x u => ∃ a' c', u = .slice a' (m + 1) c' ∧ IRow W.heap.size x u (n0 :: P)] : List (Unit → World → Value → Prop)).getD kk (fun _ _ _ => True) y x u) ?hR () ?h0 ?step ?last
  case hR =>
    intro i' j' y y' x x' u hi1 hj1 hne hu h1 h2 hp hr
    have hj' : j' < 8 := hj1
    have hcases : j' = 0 ∨ j' = 1 ∨ j' = 2 ∨ j' = 3 ∨ j' = 4 ∨ j' = 5 ∨ j' = 6 ∨ j' = 7 := by omega
    rcases hcases with rfl | rfl | rfl | rfl | rfl | rfl | rfl | rfl
    case inr.inr.inl =>
      obtain ⟨a', c', e, r⟩ := hp
      exact ⟨a', c', e, r.below (fun k hk => (r.lt k hk).2) (hr.1 fun e => hu e.symm)⟩
    case inr.inr.inr.inr.inr.inl =>
      obtain ⟨a', c', e, r⟩ := hp
      exact ⟨a', c', e, r.below (fun k hk => (r.lt k hk).2) (hr.1 fun e => hu e.symm)⟩
    case inr.inr.inr.inr.inr.inr.inl =>
      obtain ⟨a', c', e, r⟩ := hp
      exact ⟨a', c', e, r.below (fun k hk => (r.lt k hk).2) (hr.1 hne)⟩
    case inr.inr.inr.inr.inr.inr.inr =>
      obtain ⟨a', c', e, r⟩ := hp
      exact ⟨a', c', e, r.below (fun k hk => (r.lt k hk).2) (hr.1 (by rintro rfl; exact absurd h1 (by decide +kernel)))⟩
    all_goals exact hp
  case h0 => exact (Below.refl _ _).drew
  case step =>
    intro q o hq ho L a y x hLi hwt hre hkp hI hp
    have s3 : a.tmps.getD 3 undef = .pointer (some ⟨D, 0, none⟩) := hkp.slot 3 (by kernel_rfl)
    have hbx := X.out.1.below X.out.1.under hI
    have hq' : q < 8 := hq
    have hcases : q = 0 ∨ q = 1 ∨ q = 2 ∨ q = 3 ∨ q = 4 ∨ q = 5 ∨ q = 6 ∨ q = 7 := by omega
    rcases hcases with rfl | rfl | rfl | rfl | rfl | rfl | rfl | rfl
    · cases ho
      exact ⟨wanted_none rfl, op_valY (v := .pointer (some ⟨D, 0, none⟩)) (w' := x) (field0_run 3 rfl s3) ⟨_, (), rfl, ⟨fun _ => Below.refl _ _, fun _ _ _ => rfl⟩, hI, fun u hu => hu (fun h => by cases h)⟩⟩
    · cases ho
      have e1 : a.tmps.getD 11 undef = .pointer (some ⟨D, 0, none⟩) := hp 0 (of_decide_eq_true (by kernel_rfl)) (.inr (by decide))
      exact ⟨wanted_none rfl, op_valY (v := .int .i64 n0) (w' := x) (loadInt_run 11 rfl e1 (hbx.cell 0 rfl)) ⟨_, (), rfl, ⟨fun _ => Below.refl _ _, fun _ _ _ => rfl⟩, hI, fun u hu => hu (fun h => by cases h)⟩⟩
    · cases ho
      have e1 : a.tmps.getD 12 undef = .int .i64 n0 := hp 1 (of_decide_eq_true (by kernel_rfl)) (.inr (by decide))
      refine ⟨wanted_none rfl, op_valY (v := .slice (some ⟨x.heap.size, 0, none⟩) 1 1) (w' := x.alloc (.cells #[.int .i64 n0] 2)) (buildInt_run 12 rfl e1) ⟨_, (), rfl, ⟨fun _ => (Below.refl _ _).alloc (Nat.le_refl _) _, fun h => absurd rfl h⟩, hI.trans ((Below.refl _ _).alloc hI.size _), fun u hu => ?_⟩⟩
      have eu := hu (fun h => by cases h)
      subst eu
      exact ⟨_, _, rfl, irow_one x n0 hI.size⟩
    · cases ho
      exact ⟨wanted_none rfl, op_valY (v := .pointer (some ⟨D, 1, none⟩)) (w' := x) (field1_run 3 rfl s3) ⟨_, (), rfl, ⟨fun _ => Below.refl _ _, fun _ _ _ => rfl⟩, hI, fun u hu => hu (fun h => by cases h)⟩⟩
    · cases ho
      have e1 : a.tmps.getD 14 undef = .pointer (some ⟨D, 1, none⟩) := hp 3 (of_decide_eq_true (by kernel_rfl)) (.inr (by decide))
      exact ⟨wanted_none rfl, op_valY (v := .iface ty tv) (w' := x) (loadPath_run 14 rfl e1 (hbx.cell 1 rfl)) ⟨_, (), rfl, ⟨fun _ => Below.refl _ _, fun _ _ _ => rfl⟩, hI, fun u hu => hu (fun h => by cases h)⟩⟩
    · cases ho
      have e1 : a.tmps.getD 15 undef = .iface ty tv := hp 4 (of_decide_eq_true (by kernel_rfl)) (.inr (by decide))
      refine ⟨wanted_none rfl, op_callR (callNum_run 15 rfl e1) (I'.out x) ?_⟩
      rintro e x2 ⟨⟨v, rfl, r⟩, q2⟩
      obtain ⟨a', c', ev⟩ := r.shape
      rw [Hm.out] at ev
      refine ⟨v, rfl, v, (), rfl, ⟨fun _ => q2, fun _ h => absurd rfl h⟩, hI.trans (q2.mono hI.size), fun u hu => ?_⟩
      have eu := hu (fun h => by cases h)
      subst eu
      exact ⟨a', c', ev, r.mono hI.size⟩
    · cases ho
      obtain ⟨a1, c1, e1, r1⟩ : ∃ a' c', a.tmps.getD 13 undef = .slice a' 1 c' ∧ IRow W.heap.size x (a.tmps.getD 13 undef) [n0] := hp 2 (of_decide_eq_true (by kernel_rfl)) (.inl rfl)
      obtain ⟨a2, c2, e2, r2⟩ : ∃ a' c', a.tmps.getD 16 undef = .slice a' m c' ∧ IRow W.heap.size x (a.tmps.getD 16 undef) P := hp 5 (of_decide_eq_true (by kernel_rfl)) (.inl rfl)
      rw [e2] at r2
      have r2' : IRow W.heap.size x (.slice a2 P.length c2) P := by rw [Hm.out]; exact r2
      refine ⟨wanted_none rfl, int_op_app (.tmp 13) (.tmp 16) rfl W.heap.size (a.tmps.getD 13 undef) [n0] a2 m c2 P Hm.out rfl e2 r1 r2'.ints (fun h => IRow.none r2 h) (by rw [Hm.out]; simp; omega) hI.size ?_⟩
      intro v' x2 q1 q2 q3 q4
      obtain ⟨a', c', ev⟩ := q1.shape
      refine ⟨v', (), rfl, ⟨fun h => absurd rfl h, fun _ _ h => absurd rfl h⟩, hI.trans q2, fun u hu => ?_⟩
      have eu := hu (fun h => by cases h)
      subst eu
      refine ⟨a', c', ?_, q1⟩
      rw [ev]
      simp [Hm.out] <;> omega
    · cases ho
      obtain ⟨a1, c1, e1, r1⟩ : ∃ a' c', a.tmps.getD 17 undef = .slice a' (m + 1) c' ∧ IRow W.heap.size x (a.tmps.getD 17 undef) (n0 :: P) := hp 6 (of_decide_eq_true (by kernel_rfl)) (.inl rfl)
      refine ⟨wanted_none rfl, op_assignZ 17 rfl ⟨_, (), rfl, ⟨fun _ => Below.refl _ _, fun _ _ _ => rfl⟩, hI, fun u hu => ?_⟩⟩
      have eu := hu (fun h => by cases h)
      subst eu
      exact ⟨a1, c1, e1, r1⟩
  case last =>
  intro L a y x hall hkp hI hp
  obtain ⟨a1, c1, e1, r1⟩ : ∃ a' c', a.tmps.getD 2 undef = .slice a' (m + 1) c' ∧ IRow W.heap.size x (a.tmps.getD 2 undef) (n0 :: P) := hp 7 (by decide) (by decide)
  rw [e1] at r1
  have F : Hid (IRow W.heap.size x (.slice a1 (m + 1) c1) (n0 :: P) ∧ Below W.heap.size W x) := ⟨r1, hI⟩
  have ha := hkp.pick [true, true, false, true, true, true, true, true, true, true, true, false, false, false, false, false, false, false, true, true, true, true] (by kernel_rfl)
  simp only [pickS] at ha
  rw [e1] at ha
  clear hp hkp hI hall r1 e1
  generalize a.tmps.getD 11 undef = y11 at ha
  generalize a.tmps.getD 12 undef = y12 at ha
  generalize a.tmps.getD 13 undef = y13 at ha
  generalize a.tmps.getD 14 undef = y14 at ha
  generalize a.tmps.getD 15 undef = y15 at ha
  generalize a.tmps.getD 16 undef = y16 at ha
  generalize a.tmps.getD 17 undef = y17 at ha
  rw [ha]
  clear ha
  go_wp2
  go_ret
  exact ⟨⟨_, rfl, F.out.1.mono Hx.out.size⟩, Hx.out.trans (F.out.2.mono Hx.out.size)⟩
theorem implNumbersOn : ∀ (p : List Int) (w : World), p.length ≤ 1048576 → ends0 p →
    Calls Try.prog 37 #[pv p] w fun e w' => (∃ v, e = .returned v ∧ IRow w.heap.size w' v p) ∧ Below w.heap.size w w'
  | [], w, _, _ => implNumNo w
  | [x], w, _, h => by
    obtain rfl : x = 0 := h
    exact implNumTop w
  | x :: y :: r, w, hl, h => by
    obtain ⟨ty, tv, e⟩ := pv_shape (y :: r)
    rw [pv_cons (by simp), e]
    refine implNumStep x ty tv (y :: r) (by simp at hl ⊢; omega) w fun w => ?_
    rw [← e]
    exact implNumbersOn (y :: r) w (by simp at hl ⊢; omega) h

set_option maxHeartbeats 3200000 in
set_option maxRecDepth 100000 in
theorem implPathOf (a : Option Addr) (c : Nat) (r : List Nd) (n : Int) (w : World) (hT : r.length ≤ 1048576) (hc : r.length ≤ c) (hcn : a = none → c = 0) (h : Hid (NdsAt w a r)) :
    Calls Try.prog 11 #[.slice a r.length c, .int .i64 n] w fun e w' => (∃ v', e = .returned (v') ∧ IRow w.heap.size w' v' (pathOf r n)) ∧ Below w.heap.size w w' := by
  have A1 := fun (_ : Nat) => implTreeOk r a c w hT hc hcn h
  have A2 := fun w => implPlace r.length n w hT
  have HI : Hid (∀ w', Below w.heap.size w w' → NdsAt w' a r) := fun w' g => h.out.below g
  have Ht : Hid (tin r n = (tok r && inB 0 ((r.length : Int) - 1) n)) := by
    show tin r n = _
    rw [Bool.eq_iff_iff, tin_iff, Bool.and_eq_true, inB_true]
    constructor <;> rintro ⟨g, g1, g2⟩ <;> exact ⟨g, by omega, by omega⟩
  have A3 : Hid (tin r n = true → ∀ w', NdsAt w' a r → Calls Try.prog 38 #[.slice a r.length c, .int .i64 n] w' fun e w2 => e = .returned (pv (pathOf r n)) ∧ w2 = w') := fun e w' hh => by
    obtain ⟨g1, g2, g3⟩ := tin_iff.1 e
    unfold pathOf
    rw [if_pos e]
    exact implPathFrom a c r g1 _ n w' g2 g3 (Nat.le_refl _) hh
  have A4 : Hid (tin r n = true → ∀ w' : World, Calls Try.prog 37 #[pv (pathOf r n)] w' fun e w2 => (∃ v, e = .returned v ∧ IRow w'.heap.size w2 v (pathOf r n)) ∧ Below w'.heap.size w' w2) := fun e w' => by
    obtain ⟨g1, g2, g3⟩ := tin_iff.1 e
    refine implNumbersOn _ w' (Nat.le_trans (pathOf_len r n) (by decide)) ?_
    unfold pathOf
    rw [if_pos e]
    exact path_ends g1 _ n g2 g3 (Nat.le_refl _)
  have A5 : Hid (tin r n = false → ∀ w' : World, Calls Try.prog 37 #[.iface 57 (.agg #[])] w' fun e w2 => (∃ v, e = .returned v ∧ IRow w'.heap.size w2 v (pathOf r n)) ∧ Below w'.heap.size w' w2) := fun e w' => by
    unfold pathOf
    rw [if_neg (by rw [e]; simp)]
    exact implNumNo w'
  obtain ⟨ty, tv, hpv⟩ := pv_shape (pathOf r n)
  rw [hpv] at A3 A4
  clear hpv
  generalize pathOf r n = P at A4 A5 ⊢
  generalize tin r n = ti at Ht A3 A4 A5
  generalize tok r = ok at A1 Ht
  generalize inB 0 ((r.length : Int) - 1) n = pl at A2 Ht
  generalize r.length = len at hT A1 A2 A3 ⊢
  have A1' : Hid _ := A1
  have A2' : Hid _ := A2
  clear A1 A2 h hc hcn
  go_enter Try.func11, Try.ntmps11
  go_wp2_with fail
  refine (A1'.out 0).mono ?_
  rintro e w1 ⟨rfl, q⟩
  have B1 : Hid (Below w.heap.size w w1) := q
  clear q A1'
  cases ok
  · have A6 : Hid _ := A5.out (by rw [Ht.out]; rfl)
    clear A3 A4 A5 Ht
    go_wp2_with fail
    refine (A6.out _).mono ?_
    rintro e w2 ⟨⟨v, rfl, r1⟩, q⟩
    have F : Hid (IRow w.heap.size w2 v P ∧ Below w.heap.size w w2) := ⟨r1.mono B1.out.size, B1.out.trans (q.mono B1.out.size)⟩
    clear q r1
    go_wp2
    go_ret
    exact ⟨⟨_, rfl, F.out.1⟩, F.out.2⟩
  go_wp2_with fail
  refine (A2'.out _).mono ?_
  rintro e w2 ⟨rfl, hw2⟩
  have B2 : Hid (Below w.heap.size w w2) := by show Below _ _ _; rw [hw2]; exact B1.out.trans ((Below.refl _ _).alloc B1.out.size _)
  clear hw2 B1 A2'
  cases pl
  · have A6 : Hid _ := A5.out (by rw [Ht.out]; rfl)
    clear A3 A4 A5 Ht
    go_wp2_with fail
    refine (A6.out _).mono ?_
    rintro e w3 ⟨⟨v, rfl, r1⟩, q⟩
    have F : Hid (IRow w.heap.size w3 v P ∧ Below w.heap.size w w3) := ⟨r1.mono B2.out.size, B2.out.trans (q.mono B2.out.size)⟩
    clear q r1
    go_wp2
    go_ret
    exact ⟨⟨_, rfl, F.out.1⟩, F.out.2⟩
  have A6 : Hid _ := A3.out (by rw [Ht.out]; rfl)
  have A7 : Hid _ := A4.out (by rw [Ht.out]; rfl)
  clear A3 A4 A5 Ht
  go_wp2_with fail
  refine (A6.out w2 (HI.out _ B2.out)).mono ?_
  rintro e w3 ⟨rfl, hw3⟩
  obtain rfl := hw3.symm
  clear hw3
  go_wp2_with fail
  refine (A7.out _).mono ?_
  rintro e w3 ⟨⟨v, rfl, r1⟩, q⟩
  have F : Hid (IRow w.heap.size w3 v P ∧ Below w.heap.size w w3) := ⟨r1.mono B2.out.size, B2.out.trans (q.mono B2.out.size)⟩
  clear q r1
  go_wp2
  go_ret
  exact ⟨⟨_, rfl, F.out.1⟩, F.out.2⟩
end Go.Proofs.Ytfdapmchpikfiaa

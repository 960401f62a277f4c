/-
  errors.As at a refusal that is sought: nothing wrong: not found; a refusal that is wrapped once: found, and its code is set. By the verifier.
-/
import Derived.Test.YtddjflaceokoaaaDoorErIs
namespace Go.Proofs.YtddjflaceokoaaaDoor
open Go.RowKit Go.Extern.Stop Go.Stop Go.Extern

/-- errors.As(nil, target). -/
theorem as_nil (t : Value) (w : World) :
    Calls Tryd.prog 52 #[.nilIface, t] w fun e w' => e = .returned (.bool false) ∧ w' = w := by
  go_enter Tryd.func52, Tryd.ntmps52
  go_wp2
  go_ret
  exact ⟨rfl, rfl⟩

def eValueOf : Array Value → Sem Value := fun args => ReflectliteValue.unpack (args.getD 0 (.tuple #[]))
def eTypeV : Array Value → Sem Value := ReflectliteValue.methodAny (ReflectliteValue.valueError "reflectlite.Value.Type" 0) (fun t _ _ _ => ReflectliteType.toType t)
def eIsNil : Array Value → Sem Value := ReflectliteValue.method (ReflectliteValue.valueError "reflectlite.Value.IsNil" 0) ReflectliteValue.isNil
def eKind : Array Value → Sem Value := ReflectliteType.abiMethod fun t => do pure (.int .u8 (← Rtype.kind t))
def eElemT : Array Value → Sem Value := ReflectliteType.method ReflectliteType.elem
def eImpl : Array Value → Sem Value := ReflectliteType.relation "Implements" ReflectliteType.implements_
def eTypeOf : Array Value → Sem Value := ReflectliteType.typeOf
def eAssign : Array Value → Sem Value := ReflectliteType.relation "AssignableTo" ReflectliteType.assignableTo
def eElemV : Array Value → Sem Value := ReflectliteValue.method (ReflectliteValue.valueError "reflectlite.Value.Elem" 0) ReflectliteValue.elem
def eSet : Array Value → Sem Value := ReflectliteValue.set

theorem asValueOfP (t : Addr) (w : World) : (eValueOf #[.iface 73 (.pointer (some t))]).run Tryd.prog w = .ok (.agg #[.pointer (some ⟨3, 73, none⟩), .pointer (some ⟨w.heap.size, 0, none⟩), .int .u64 150]) (w.alloc (.cells #[.pointer (some t)] 73)) := by kernel_rfl
theorem asValueOfE (c : Int) (w : World) : (eValueOf #[.iface 67 (.agg #[.int .i64 c])]).run Tryd.prog w = .ok (.agg #[.pointer (some ⟨3, 67, none⟩), .pointer (some ⟨w.heap.size, 0, none⟩), .int .u64 153]) (w.alloc (.cells #[.int .i64 c] 67)) := by kernel_rfl
theorem asTypeV (a : Addr) (w : World) : (eTypeV #[(.agg #[.pointer (some ⟨3, 73, none⟩), .pointer (some a), .int .u64 150])]).run Tryd.prog w = .ok (.iface 96 (.agg #[.pointer (some ⟨3, 73, none⟩)])) w := by kernel_rfl
theorem asMethodKind (h : Value) (w : World) : (Go.method 244 96 (.agg #[h]) "Kind").run Tryd.prog w = .ok (79, h) w := by kernel_rfl
theorem asMethodElem (h : Value) (w : World) : (Go.method 244 96 (.agg #[h]) "Elem").run Tryd.prog w = .ok (91, .agg #[h]) w := by kernel_rfl
theorem asMethodImplements (h : Value) (w : World) : (Go.method 244 96 (.agg #[h]) "Implements").run Tryd.prog w = .ok (92, .agg #[h]) w := by kernel_rfl
theorem asMethodAssignableTo (h : Value) (w : World) : (Go.method 244 96 (.agg #[h]) "AssignableTo").run Tryd.prog w = .ok (89, .agg #[h]) w := by kernel_rfl
theorem asKindP (w : World) : (eKind #[.pointer (some ⟨3, 73, none⟩)]).run Tryd.prog w = .ok (.int .u8 22) w := by kernel_rfl
theorem asKindE (w : World) : (eKind #[.pointer (some ⟨3, 67, none⟩)]).run Tryd.prog w = .ok (.int .u8 25) w := by kernel_rfl
theorem asElemT (w : World) : (eElemT #[(.agg #[.pointer (some ⟨3, 73, none⟩)])]).run Tryd.prog w = .ok (.iface 96 (.agg #[.pointer (some ⟨3, 67, none⟩)])) w := by kernel_rfl
theorem asImpl (w : World) : (eImpl #[(.agg #[.pointer (some ⟨3, 67, none⟩)]), .iface 96 (.agg #[.pointer (some ⟨3, 45, none⟩)])]).run Tryd.prog w = .ok (.bool true) w := by kernel_rfl
theorem asTypeOfM (v : Value) (w : World) : (eTypeOf #[.iface 77 v]).run Tryd.prog w = .ok (.iface 96 (.agg #[.pointer (some ⟨3, 77, none⟩)])) w := by kernel_rfl
theorem asTypeOfE (v : Value) (w : World) : (eTypeOf #[.iface 67 v]).run Tryd.prog w = .ok (.iface 96 (.agg #[.pointer (some ⟨3, 67, none⟩)])) w := by kernel_rfl
theorem asAssignM (w : World) : (eAssign #[(.agg #[.pointer (some ⟨3, 77, none⟩)]), .iface 96 (.agg #[.pointer (some ⟨3, 67, none⟩)])]).run Tryd.prog w = .ok (.bool false) w := by kernel_rfl
theorem asAssignE (w : World) : (eAssign #[(.agg #[.pointer (some ⟨3, 67, none⟩)]), .iface 96 (.agg #[.pointer (some ⟨3, 67, none⟩)])]).run Tryd.prog w = .ok (.bool true) w := by kernel_rfl
theorem noAsM (v : Value) (xT : TypeId) (w : World) : (Instr.typeAssert (.iface 77 v) xT 108 true).run Tryd.prog w = .ok (.tuple #[.nilIface, .bool false]) w := run_typeAssert_lacksB Tryd.underlying108 (by kernel_rfl) (by kernel_rfl) v xT w

theorem rlm (z : Sem Value) (f : TypeId → Addr → Nat → Nat → Sem Value) (v : Value) :
    ReflectliteValue.method z f #[v] = (do match ← ReflectliteValue.parts v with | none => z | some (t, a, fl) => f t a fl (fl % 32)) := rfl
theorem asPartsP (a : Addr) (w : World) : (ReflectliteValue.parts (.agg #[.pointer (some ⟨3, 73, none⟩), .pointer (some a), .int .u64 150])).run Tryd.prog w = .ok (some (73, a, 150)) w := by kernel_rfl
theorem asPartsE (a : Addr) (w : World) : (ReflectliteValue.parts (.agg #[.pointer (some ⟨3, 67, none⟩), .pointer (some a), .int .u64 153])).run Tryd.prog w = .ok (some (67, a, 153)) w := by kernel_rfl
theorem asPartsEa (a : Addr) (w : World) : (ReflectliteValue.parts (.agg #[.pointer (some ⟨3, 67, none⟩), .pointer (some a), .int .u64 409])).run Tryd.prog w = .ok (some (67, a, 409)) w := by kernel_rfl
theorem asIsNil (a p : Addr) (W : World) (ha : W.cell? a = some (.pointer (some p))) : (eIsNil #[(.agg #[.pointer (some ⟨3, 73, none⟩), .pointer (some a), .int .u64 150])]).run Tryd.prog W = .ok (.bool false) W := by
  unfold eIsNil
  rw [rlm]
  simp only [Sem.run_bind, asPartsP, Result.andThen]
  simp [ReflectliteValue.isNil, loadVar, isAgg, underlying, Tryd.underlying73, ha, Result.andThen]
theorem asElemOf (w : World) : (Rtype.elem? 73).run Tryd.prog w = .ok (some 67) w := by kernel_rfl
theorem asMk (p : Addr) (w : World) : (ReflectliteValue.mk 67 p ReflectliteValue.flagAddr).run Tryd.prog w = .ok (.agg #[.pointer (some ⟨3, 67, none⟩), .pointer (some p), .int .u64 409]) w := by kernel_rfl
theorem asElemV (a p : Addr) (W : World) (ha : W.cell? a = some (.pointer (some p))) : (eElemV #[(.agg #[.pointer (some ⟨3, 73, none⟩), .pointer (some a), .int .u64 150])]).run Tryd.prog W = .ok (.agg #[.pointer (some ⟨3, 67, none⟩), .pointer (some p), .int .u64 409]) W := by
  unfold eElemV
  rw [rlm]
  simp only [Sem.run_bind, asPartsP, Result.andThen]
  simp [ReflectliteValue.elem, loadVar, isAgg, underlying, Tryd.underlying73, ha, Result.andThen, asElemOf, asMk]
theorem rls (v x : Value) : ReflectliteValue.set #[v, x] = (do
    let (some (dst, a, fl), some (src, b, _)) := (← ReflectliteValue.parts v, ← ReflectliteValue.parts x)
      | unsupported (.noEntry "extern/(internal/reflectlite.Value).Set.zeroValue")
    if fl / ReflectliteValue.flagAddr % 2 == 0 then unsupported (.noEntry "extern/(internal/reflectlite.Value).Set.unaddressable")
    let val ← loadVar src b
    if ← Rtype.directlyAssignable dst src then storeVar dst a val
    else if ← Rtype.implements dst src then
      if (← Rtype.kind src) == 20 then
        match val with
        | .nilIface => unsupported (.noEntry "extern/reflectlite: a nil value of one interface type handed on as a value of another")
        | _ => storeVar dst a val
      else storeVar dst a (.iface src val)
    else panicString ("reflectlite.Set: value of type " ++ (← Rtype.spelt src) ++ " is not assignable to type " ++ (← Rtype.spelt dst))
    pure (.tuple #[])) := rfl
theorem asDirect (w : World) : (Rtype.directlyAssignable 67 67).run Tryd.prog w = .ok true w := by kernel_rfl
theorem asLoad (b : Addr) (c : Int) (W : World) (hb : W.cell? b = some (.int .i64 c)) : (loadVar 67 b).run Tryd.prog W = .ok (.agg #[.int .i64 c]) W := by
  have hl := run_loadCells_list (P := Tryd.prog) W b [.int .i64 c] (by intro j v hj; match j, hj with | 0, hj => simp at hj; subst hj; simpa [Addr.add] using hb)
  simp only [List.length_singleton] at hl
  have hag : (isAgg 67).run Tryd.prog W = .ok true W := by kernel_rfl
  simp [loadVar, hag, hl, Result.andThen]
theorem asSet (ta b : Addr) (c : Int) (old : Value) (W : World) (hb : W.cell? b = some (.int .i64 c)) (ht : W.cell? ta = some old) (hf : W.frozen? ta = false) :
    (eSet #[(.agg #[.pointer (some ⟨3, 67, none⟩), .pointer (some ta), .int .u64 409]), (.agg #[.pointer (some ⟨3, 67, none⟩), .pointer (some b), .int .u64 153])]).run Tryd.prog W = .ok (.tuple #[]) (W.setCell ta (.int .i64 c)) := by
  unfold eSet
  rw [rls]
  simp only [Sem.run_bind, asPartsEa, asPartsE, Result.andThen]
  simp [ReflectliteValue.flagAddr, asLoad b c W hb, Result.andThen, asDirect, storeVar, Value.cells, storeCells, Addr.add]
  rw [run_store Tryd.prog W ta _ _ (by rfl)]
  simp [ht, hf]
end Go.Proofs.YtddjflaceokoaaaDoor

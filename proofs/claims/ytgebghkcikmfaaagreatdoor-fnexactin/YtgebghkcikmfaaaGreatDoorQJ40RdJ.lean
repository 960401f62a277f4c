import Derived.Test.YtgebghkcikmfaaaGreatDoorRows
import Derived.WalkKit
import Derived.LaidEql
import Derived.Stop.Asserts
import Derived.RowKitTokens
import Derived.Handy
import Derived.Test.YtgebghkcikmfaaaGreatDoorQJ39RuMat
import Derived.Test.YtgebghkcikmfaaaGreatDoorQJ1FrInner
import Derived.Test.YtgebghkcikmfaaaGreatDoorQJ15OrByte
import Derived.RegionTactic
import Derived.Lib.ConvBytes
import Derived.Lib.SmallJoins
import Derived.Laws.BitsLemmas
import Derived.Shelf.LaysM
import Derived.Shelf.Strconv.Clone
import Derived.Test.YtgebghkcikmfaaaGreatDoorProg
import Derived.Scope
import Derived.ScopeJumps
import Derived.WalkMore
import Derived.Laws.Tables
import Derived.Laws.Rows
import Derived.Laws.CopyOwn
/-
  errors.Is, at what the reader of frames hands it: nothing wrong; a wrapped sentinel, the same or another one; a wrapped refusal. By the verifier.
-/
namespace Go.Proofs.YtgebghkcikmfaaaGreatDoor
open Go.RowKit Go.Extern.Stop Go.Stop Go.Extern

/-- The model's entry for Comparable. -/
def eCmp : Array Value → Sem Value := ReflectliteType.method fun t => do Rtype.noPackHeld "Comparable" t; pure (.bool (← typeInfo t).comparable)
theorem isTypeOf (v : Value) (w : World) : (Extern.ReflectliteType.typeOf #[.iface 338 v]).run Tryz.prog w = .ok (.iface 323 (.agg #[.pointer (some ⟨4, 338, none⟩)])) w := by kernel_rfl
theorem isComparable (w : World) : (eCmp #[.agg #[.pointer (some ⟨4, 338, none⟩)]]).run Tryz.prog w = .ok (.bool true) w := by kernel_rfl
theorem isMethodComparable (v : Value) (w : World) : (Go.method 471 323 v "Comparable").run Tryz.prog w = .ok (317, v) w := by kernel_rfl
theorem isComp : (Tryz.prog.info? 338).map (·.comparable) = some true := by kernel_rfl
theorem isSize : (Tryz.prog.info? 359).map (·.size) = some 1 := by kernel_rfl
theorem noIsE (v : Value) (xT : TypeId) (w : World) : (Instr.typeAssert (.iface 338 v) xT 325 true).run Tryz.prog w = .ok (.tuple #[.nilIface, .bool false]) w := run_typeAssert_lacksB Tryz.underlying325 (by kernel_rfl) (by kernel_rfl) v xT w
theorem noUnwrapE (v : Value) (xT : TypeId) (w : World) : (Instr.typeAssert (.iface 338 v) xT 328 true).run Tryz.prog w = .ok (.tuple #[.nilIface, .bool false]) w := run_typeAssert_lacksB Tryz.underlying328 (by kernel_rfl) (by kernel_rfl) v xT w
theorem noUnwrapsE (v : Value) (xT : TypeId) (w : World) : (Instr.typeAssert (.iface 338 v) xT 330 true).run Tryz.prog w = .ok (.tuple #[.nilIface, .bool false]) w := run_typeAssert_lacksB Tryz.underlying330 (by kernel_rfl) (by kernel_rfl) v xT w
theorem noIsR (v : Value) (xT : TypeId) (w : World) : (Instr.typeAssert (.iface 265 v) xT 325 true).run Tryz.prog w = .ok (.tuple #[.nilIface, .bool false]) w := run_typeAssert_lacksB Tryz.underlying325 (by kernel_rfl) (by kernel_rfl) v xT w
theorem noUnwrapR (v : Value) (xT : TypeId) (w : World) : (Instr.typeAssert (.iface 265 v) xT 328 true).run Tryz.prog w = .ok (.tuple #[.nilIface, .bool false]) w := run_typeAssert_lacksB Tryz.underlying328 (by kernel_rfl) (by kernel_rfl) v xT w
theorem noUnwrapsR (v : Value) (xT : TypeId) (w : World) : (Instr.typeAssert (.iface 265 v) xT 330 true).run Tryz.prog w = .ok (.tuple #[.nilIface, .bool false]) w := run_typeAssert_lacksB Tryz.underlying330 (by kernel_rfl) (by kernel_rfl) v xT w
theorem noIsM (v : Value) (xT : TypeId) (w : World) : (Instr.typeAssert (.iface 302 v) xT 325 true).run Tryz.prog w = .ok (.tuple #[.nilIface, .bool false]) w := run_typeAssert_lacksB Tryz.underlying325 (by kernel_rfl) (by kernel_rfl) v xT w
theorem hasUnwrapM (v : Value) (xT : TypeId) (w : World) : (Instr.typeAssert (.iface 302 v) xT 328 true).run Tryz.prog w = .ok (.tuple #[.iface 302 v, .bool true]) w := run_typeAssert_hasB Tryz.underlying328 (by kernel_rfl) v xT w
theorem methodUnwrap (v : Value) (w : World) : (Go.method 471 302 v "Unwrap").run Tryz.prog w = .ok (311, v) w := by kernel_rfl

theorem er_heap_lt {w : World} {k : Nat} {o : Obj} (h : w.heap[k]? = some o) : k < w.heap.size := by
  apply Classical.byContradiction
  intro hn
  rw [Array.getElem?_eq_none (by omega)] at h
  cases h

/-- errors.Is(nil, x). -/
theorem is_nil (b : Addr) (w : World) :
    Calls Tryz.prog 239 #[.nilIface, .iface 338 (.pointer (some b))] w fun e w' => e = .returned (.bool false) ∧ w' = w := by
  have hn := run_eql_iface_nil_left (P := Tryz.prog) w 338 (.pointer (some b)) Tryz.underlying228
  go_enter Tryz.func239, Tryz.ntmps239
  go_wp2
  go_ret
  exact ⟨rfl, rfl⟩

/-- errors.Is(e, x), e wraps x itself. -/
theorem is_mis_same (k : Int) (b : Addr) (w : World) :
    Calls Tryz.prog 239 #[.iface 302 (.agg #[.int .i64 k, .iface 338 (.pointer (some b))]), .iface 338 (.pointer (some b))] w fun e w' => e = .returned (.bool true) ∧ w' = w.alloc (.cells #[.int .i64 k, .iface 338 (.pointer (some b))] 302) := by
  obtain ⟨i, hi, hcmp⟩ := Option.map_eq_some_iff.1 isComp
  obtain ⟨j, hj, hjs⟩ := Option.map_eq_some_iff.1 isSize
  have h8 := @run_callFunc_extern Tryz.prog 273 _ Extern.ReflectliteType.typeOf Tryz.func273 (by kernel_rfl) (by kernel_rfl) (by kernel_rfl) (by kernel_rfl)
  have h32 := @run_callFunc_extern Tryz.prog 317 _ eCmp Tryz.func317 (by kernel_rfl) (by kernel_rfl) (by kernel_rfl) (by kernel_rfl)
  have tT := isTypeOf
  have cT := isComparable
  have mR := isMethodComparable
  have nW := noIsM
  have uW := hasUnwrapM
  have mU := methodUnwrap
  have heq := run_eql_iface_ptr_same (P := Tryz.prog) (w.alloc (.cells #[.int .i64 k, .iface 338 (.pointer (some b))] 302)) b Tryz.underlying228 Tryz.underlying338 hi hcmp hj
  have hty := run_eql_iface_types (P := Tryz.prog) 302 338 (.agg #[.int .i64 k, .iface 338 (.pointer (some b))]) (.pointer (some b)) Tryz.underlying228 (by decide) w
  go_enter Tryz.func239, Tryz.ntmps239
  go_wp2
  refine wp_loop_rounds 2 ?_
  rw [rounds_succ]
  go_wp2
  rw [rounds_succ]
  go_wp2
  go_ret
  exact ⟨rfl, rfl⟩
/-- errors.Is(e, x), e wraps another sentinel. -/
theorem is_mis_other (k : Int) (a b : Addr) (ca cb : Array Value) (ta tb : TypeId) (w : World) (hne : a ≠ b) (ha : w.heap[a.block]? = some (.cells ca ta (0, 0))) (hb : w.heap[b.block]? = some (.cells cb tb (0, 0))) :
    Calls Tryz.prog 239 #[.iface 302 (.agg #[.int .i64 k, .iface 338 (.pointer (some a))]), .iface 338 (.pointer (some b))] w fun e w' => e = .returned (.bool false) ∧ w' = w.alloc (.cells #[.int .i64 k, .iface 338 (.pointer (some a))] 302) := by
  obtain ⟨i, hi, hcmp⟩ := Option.map_eq_some_iff.1 isComp
  obtain ⟨j, hj, hjs⟩ := Option.map_eq_some_iff.1 isSize
  have h8 := @run_callFunc_extern Tryz.prog 273 _ Extern.ReflectliteType.typeOf Tryz.func273 (by kernel_rfl) (by kernel_rfl) (by kernel_rfl) (by kernel_rfl)
  have h32 := @run_callFunc_extern Tryz.prog 317 _ eCmp Tryz.func317 (by kernel_rfl) (by kernel_rfl) (by kernel_rfl) (by kernel_rfl)
  have tT := isTypeOf
  have cT := isComparable
  have mR := isMethodComparable
  have nW := noIsM
  have uW := hasUnwrapM
  have mU := methodUnwrap
  have nE := noIsE
  have uE := noUnwrapE
  have vE := noUnwrapsE
  have hA : (w.alloc (.cells #[.int .i64 k, .iface 338 (.pointer (some a))] 302)).heap[a.block]? = some (.cells ca ta (0, 0)) := by rw [Below.heap_alloc _ _ _ (er_heap_lt ha)]; exact ha
  have hB : (w.alloc (.cells #[.int .i64 k, .iface 338 (.pointer (some a))] 302)).heap[b.block]? = some (.cells cb tb (0, 0)) := by rw [Below.heap_alloc _ _ _ (er_heap_lt hb)]; exact hb
  have heq := run_eql_iface_ptr_other (P := Tryz.prog) (w.alloc (.cells #[.int .i64 k, .iface 338 (.pointer (some a))] 302)) Tryz.underlying228 Tryz.underlying338 hi hcmp hj (by rw [hjs]; decide) hne hA hB
  have hty := run_eql_iface_types (P := Tryz.prog) 302 338 (.agg #[.int .i64 k, .iface 338 (.pointer (some a))]) (.pointer (some b)) Tryz.underlying228 (by decide) w
  go_enter Tryz.func239, Tryz.ntmps239
  go_wp2
  refine wp_loop_rounds 2 ?_
  rw [rounds_succ]
  go_wp2
  rw [rounds_succ]
  go_wp2
  go_ret
  exact ⟨rfl, rfl⟩
/-- errors.Is(e, x), e wraps a refusal. -/
theorem is_mis_ref (k c : Int) (b : Addr) (w : World) :
    Calls Tryz.prog 239 #[.iface 302 (.agg #[.int .i64 k, .iface 265 (.agg #[.int .i64 c])]), .iface 338 (.pointer (some b))] w fun e w' => e = .returned (.bool false) ∧ w' = w.alloc (.cells #[.int .i64 k, .iface 265 (.agg #[.int .i64 c])] 302) := by
  obtain ⟨i, hi, hcmp⟩ := Option.map_eq_some_iff.1 isComp
  obtain ⟨j, hj, hjs⟩ := Option.map_eq_some_iff.1 isSize
  have h8 := @run_callFunc_extern Tryz.prog 273 _ Extern.ReflectliteType.typeOf Tryz.func273 (by kernel_rfl) (by kernel_rfl) (by kernel_rfl) (by kernel_rfl)
  have h32 := @run_callFunc_extern Tryz.prog 317 _ eCmp Tryz.func317 (by kernel_rfl) (by kernel_rfl) (by kernel_rfl) (by kernel_rfl)
  have tT := isTypeOf
  have cT := isComparable
  have mR := isMethodComparable
  have nW := noIsM
  have uW := hasUnwrapM
  have mU := methodUnwrap
  have nE := noIsR
  have uE := noUnwrapR
  have vE := noUnwrapsR
  have heq := run_eql_iface_types (P := Tryz.prog) 265 338 (.agg #[.int .i64 c]) (.pointer (some b)) Tryz.underlying228 (by decide) (w.alloc (.cells #[.int .i64 k, .iface 265 (.agg #[.int .i64 c])] 302))
  have hty := run_eql_iface_types (P := Tryz.prog) 302 338 (.agg #[.int .i64 k, .iface 265 (.agg #[.int .i64 c])]) (.pointer (some b)) Tryz.underlying228 (by decide) w
  go_enter Tryz.func239, Tryz.ntmps239
  go_wp2
  refine wp_loop_rounds 2 ?_
  rw [rounds_succ]
  go_wp2
  rw [rounds_succ]
  go_wp2
  go_ret
  exact ⟨rfl, rfl⟩
end Go.Proofs.YtgebghkcikmfaaaGreatDoor

/-
  errors.As at a refusal that is sought: nothing wrong: not found; a refusal that is wrapped once: found, and its code is set. By the verifier.
-/
namespace Go.Proofs.YtgebghkcikmfaaaGreatDoor
open Go.RowKit Go.Extern.Stop Go.Stop Go.Extern

/-- errors.As(nil, target). -/
theorem as_nil (t : Value) (w : World) :
    Calls Tryz.prog 240 #[.nilIface, t] w fun e w' => e = .returned (.bool false) ∧ w' = w := by
  go_enter Tryz.func240, Tryz.ntmps240
  go_wp2
  go_ret
  exact ⟨rfl, rfl⟩

def eValueOf : Array Value → Sem Value := fun args => ReflectliteValue.unpack (args.getD 0 (.tuple #[]))
def eTypeV : Array Value → Sem Value := ReflectliteValue.methodAny (ReflectliteValue.valueError "reflectlite.Value.Type" 0) (fun t _ _ _ => ReflectliteType.toType t)
def eIsNil : Array Value → Sem Value := ReflectliteValue.method (ReflectliteValue.valueError "reflectlite.Value.IsNil" 0) ReflectliteValue.isNil
def eKind : Array Value → Sem Value := ReflectliteType.abiMethod fun t => do pure (.int .u8 (← Rtype.kind t))
def eElemT : Array Value → Sem Value := ReflectliteType.method ReflectliteType.elem
def eImpl : Array Value → Sem Value := ReflectliteType.relation "Implements" ReflectliteType.implements_
def eTypeOf : Array Value → Sem Value := ReflectliteType.typeOf
def eAssign : Array Value → Sem Value := ReflectliteType.relation "AssignableTo" ReflectliteType.assignableTo
def eElemV : Array Value → Sem Value := ReflectliteValue.method (ReflectliteValue.valueError "reflectlite.Value.Elem" 0) ReflectliteValue.elem
def eSet : Array Value → Sem Value := ReflectliteValue.set

theorem asValueOfP (t : Addr) (w : World) : (eValueOf #[.iface 271 (.pointer (some t))]).run Tryz.prog w = .ok (.agg #[.pointer (some ⟨4, 271, none⟩), .pointer (some ⟨w.heap.size, 0, none⟩), .int .u64 150]) (w.alloc (.cells #[.pointer (some t)] 271)) := by kernel_rfl
theorem asValueOfE (c : Int) (w : World) : (eValueOf #[.iface 265 (.agg #[.int .i64 c])]).run Tryz.prog w = .ok (.agg #[.pointer (some ⟨4, 265, none⟩), .pointer (some ⟨w.heap.size, 0, none⟩), .int .u64 153]) (w.alloc (.cells #[.int .i64 c] 265)) := by kernel_rfl
theorem asTypeV (a : Addr) (w : World) : (eTypeV #[(.agg #[.pointer (some ⟨4, 271, none⟩), .pointer (some a), .int .u64 150])]).run Tryz.prog w = .ok (.iface 323 (.agg #[.pointer (some ⟨4, 271, none⟩)])) w := by kernel_rfl
theorem asMethodKind (h : Value) (w : World) : (Go.method 471 323 (.agg #[h]) "Kind").run Tryz.prog w = .ok (303, h) w := by kernel_rfl
theorem asMethodElem (h : Value) (w : World) : (Go.method 471 323 (.agg #[h]) "Elem").run Tryz.prog w = .ok (318, .agg #[h]) w := by kernel_rfl
theorem asMethodImplements (h : Value) (w : World) : (Go.method 471 323 (.agg #[h]) "Implements").run Tryz.prog w = .ok (319, .agg #[h]) w := by kernel_rfl
theorem asMethodAssignableTo (h : Value) (w : World) : (Go.method 471 323 (.agg #[h]) "AssignableTo").run Tryz.prog w = .ok (316, .agg #[h]) w := by kernel_rfl
theorem asKindP (w : World) : (eKind #[.pointer (some ⟨4, 271, none⟩)]).run Tryz.prog w = .ok (.int .u8 22) w := by kernel_rfl
theorem asKindE (w : World) : (eKind #[.pointer (some ⟨4, 265, none⟩)]).run Tryz.prog w = .ok (.int .u8 25) w := by kernel_rfl
theorem asElemT (w : World) : (eElemT #[(.agg #[.pointer (some ⟨4, 271, none⟩)])]).run Tryz.prog w = .ok (.iface 323 (.agg #[.pointer (some ⟨4, 265, none⟩)])) w := by kernel_rfl
theorem asImpl (w : World) : (eImpl #[(.agg #[.pointer (some ⟨4, 265, none⟩)]), .iface 323 (.agg #[.pointer (some ⟨4, 228, none⟩)])]).run Tryz.prog w = .ok (.bool true) w := by kernel_rfl
theorem asTypeOfM (v : Value) (w : World) : (eTypeOf #[.iface 302 v]).run Tryz.prog w = .ok (.iface 323 (.agg #[.pointer (some ⟨4, 302, none⟩)])) w := by kernel_rfl
theorem asTypeOfE (v : Value) (w : World) : (eTypeOf #[.iface 265 v]).run Tryz.prog w = .ok (.iface 323 (.agg #[.pointer (some ⟨4, 265, none⟩)])) w := by kernel_rfl
theorem asAssignM (w : World) : (eAssign #[(.agg #[.pointer (some ⟨4, 302, none⟩)]), .iface 323 (.agg #[.pointer (some ⟨4, 265, none⟩)])]).run Tryz.prog w = .ok (.bool false) w := by kernel_rfl
theorem asAssignE (w : World) : (eAssign #[(.agg #[.pointer (some ⟨4, 265, none⟩)]), .iface 323 (.agg #[.pointer (some ⟨4, 265, none⟩)])]).run Tryz.prog w = .ok (.bool true) w := by kernel_rfl
theorem noAsM (v : Value) (xT : TypeId) (w : World) : (Instr.typeAssert (.iface 302 v) xT 335 true).run Tryz.prog w = .ok (.tuple #[.nilIface, .bool false]) w := run_typeAssert_lacksB Tryz.underlying335 (by kernel_rfl) (by kernel_rfl) v xT w

theorem rlm (z : Sem Value) (f : TypeId → Addr → Nat → Nat → Sem Value) (v : Value) :
    ReflectliteValue.method z f #[v] = (do match ← ReflectliteValue.parts v with | none => z | some (t, a, fl) => f t a fl (fl % 32)) := rfl
theorem asPartsP (a : Addr) (w : World) : (ReflectliteValue.parts (.agg #[.pointer (some ⟨4, 271, none⟩), .pointer (some a), .int .u64 150])).run Tryz.prog w = .ok (some (271, a, 150)) w := by kernel_rfl
theorem asPartsE (a : Addr) (w : World) : (ReflectliteValue.parts (.agg #[.pointer (some ⟨4, 265, none⟩), .pointer (some a), .int .u64 153])).run Tryz.prog w = .ok (some (265, a, 153)) w := by kernel_rfl
theorem asPartsEa (a : Addr) (w : World) : (ReflectliteValue.parts (.agg #[.pointer (some ⟨4, 265, none⟩), .pointer (some a), .int .u64 409])).run Tryz.prog w = .ok (some (265, a, 409)) w := by kernel_rfl
theorem asIsNil (a p : Addr) (W : World) (ha : W.cell? a = some (.pointer (some p))) : (eIsNil #[(.agg #[.pointer (some ⟨4, 271, none⟩), .pointer (some a), .int .u64 150])]).run Tryz.prog W = .ok (.bool false) W := by
  unfold eIsNil
  rw [rlm]
  simp only [Sem.run_bind, asPartsP, Result.andThen]
  simp [ReflectliteValue.isNil, loadVar, isAgg, underlying, Tryz.underlying271, ha, Result.andThen]
theorem asElemOf (w : World) : (Rtype.elem? 271).run Tryz.prog w = .ok (some 265) w := by kernel_rfl
theorem asMk (p : Addr) (w : World) : (ReflectliteValue.mk 265 p ReflectliteValue.flagAddr).run Tryz.prog w = .ok (.agg #[.pointer (some ⟨4, 265, none⟩), .pointer (some p), .int .u64 409]) w := by kernel_rfl
theorem asElemV (a p : Addr) (W : World) (ha : W.cell? a = some (.pointer (some p))) : (eElemV #[(.agg #[.pointer (some ⟨4, 271, none⟩), .pointer (some a), .int .u64 150])]).run Tryz.prog W = .ok (.agg #[.pointer (some ⟨4, 265, none⟩), .pointer (some p), .int .u64 409]) W := by
  unfold eElemV
  rw [rlm]
  simp only [Sem.run_bind, asPartsP, Result.andThen]
  simp [ReflectliteValue.elem, loadVar, isAgg, underlying, Tryz.underlying271, ha, Result.andThen, asElemOf, asMk]
theorem rls (v x : Value) : ReflectliteValue.set #[v, x] = (do
    let (some (dst, a, fl), some (src, b, _)) := (← ReflectliteValue.parts v, ← ReflectliteValue.parts x)
      | unsupported (.noEntry "extern/(internal/reflectlite.Value).Set.zeroValue")
    if fl / ReflectliteValue.flagAddr % 2 == 0 then unsupported (.noEntry "extern/(internal/reflectlite.Value).Set.unaddressable")
    let val ← loadVar src b
    if ← Rtype.directlyAssignable dst src then storeVar dst a val
    else if ← Rtype.implements dst src then
      if (← Rtype.kind src) == 20 then
        match val with
        | .nilIface => unsupported (.noEntry "extern/reflectlite: a nil value of one interface type handed on as a value of another")
        | _ => storeVar dst a val
      else storeVar dst a (.iface src val)
    else panicString ("reflectlite.Set: value of type " ++ (← Rtype.spelt src) ++ " is not assignable to type " ++ (← Rtype.spelt dst))
    pure (.tuple #[])) := rfl
theorem asDirect (w : World) : (Rtype.directlyAssignable 265 265).run Tryz.prog w = .ok true w := by kernel_rfl
theorem asLoad (b : Addr) (c : Int) (W : World) (hb : W.cell? b = some (.int .i64 c)) : (loadVar 265 b).run Tryz.prog W = .ok (.agg #[.int .i64 c]) W := by
  have hl := run_loadCells_list (P := Tryz.prog) W b [.int .i64 c] (by intro j v hj; match j, hj with | 0, hj => simp at hj; subst hj; simpa [Addr.add] using hb)
  simp only [List.length_singleton] at hl
  have hag : (isAgg 265).run Tryz.prog W = .ok true W := by kernel_rfl
  simp [loadVar, hag, hl, Result.andThen]
theorem asSet (ta b : Addr) (c : Int) (old : Value) (W : World) (hb : W.cell? b = some (.int .i64 c)) (ht : W.cell? ta = some old) (hf : W.frozen? ta = false) :
    (eSet #[(.agg #[.pointer (some ⟨4, 265, none⟩), .pointer (some ta), .int .u64 409]), (.agg #[.pointer (some ⟨4, 265, none⟩), .pointer (some b), .int .u64 153])]).run Tryz.prog W = .ok (.tuple #[]) (W.setCell ta (.int .i64 c)) := by
  unfold eSet
  rw [rls]
  simp only [Sem.run_bind, asPartsEa, asPartsE, Result.andThen]
  simp [ReflectliteValue.flagAddr, asLoad b c W hb, Result.andThen, asDirect, storeVar, Value.cells, storeCells, Addr.add]
  rw [run_store Tryz.prog W ta _ _ (by rfl)]
  simp [ht, hf]
end Go.Proofs.YtgebghkcikmfaaaGreatDoor

/-
  errors.As at a refusal that is sought and wrapped once: found, and its code is set. By the verifier.
-/
namespace Go.Proofs.YtgebghkcikmfaaaGreatDoor
open Go.RowKit Go.Extern.Stop Go.Stop Go.Extern

set_option maxHeartbeats 8000000 in
/-- errors.As(e, &r), e wraps a refusal. -/
theorem as_mis_ref (k c : Int) (t : Addr) (old : Value) (w : World) (hg : w.cell? ⟨3, 0, none⟩ = some (.iface 323 (.agg #[.pointer (some ⟨4, 228, none⟩)]))) (ht0 : w.cell? t = some old) (hf0 : w.frozen? t = false) :
    Calls Tryz.prog 240 #[.iface 302 (.agg #[.int .i64 k, .iface 265 (.agg #[.int .i64 c])]), .iface 271 (.pointer (some t))] w fun ev w' => ev = .returned (.bool true) ∧ w' = ((((((w.alloc (.cells #[.pointer (some t)] 271)).alloc (.cells #[.pointer (some ⟨4, 271, none⟩), .pointer (some ⟨w.heap.size, 0, none⟩), .int .u64 150] 310))).alloc (.cells #[.pointer (some ⟨4, 271, none⟩), .pointer (some ⟨w.heap.size, 0, none⟩), .int .u64 150] 310)).alloc (.cells #[.int .i64 k, .iface 265 (.agg #[.int .i64 c])] 302)).alloc (.cells #[.int .i64 c] 265)).setCell t (.int .i64 c) := by
  have h1 := @run_callFunc_extern Tryz.prog 275 _ eValueOf Tryz.func275 (by kernel_rfl) (by kernel_rfl) (by kernel_rfl) (by kernel_rfl)
  have h2 := @run_callFunc_extern Tryz.prog 276 _ eTypeV Tryz.func276 (by kernel_rfl) (by kernel_rfl) (by kernel_rfl) (by kernel_rfl)
  have h3 := @run_callFunc_extern Tryz.prog 277 _ eIsNil Tryz.func277 (by kernel_rfl) (by kernel_rfl) (by kernel_rfl) (by kernel_rfl)
  have h4 := @run_callFunc_extern Tryz.prog 303 _ eKind Tryz.func303 (by kernel_rfl) (by kernel_rfl) (by kernel_rfl) (by kernel_rfl)
  have h5 := @run_callFunc_extern Tryz.prog 318 _ eElemT Tryz.func318 (by kernel_rfl) (by kernel_rfl) (by kernel_rfl) (by kernel_rfl)
  have h6 := @run_callFunc_extern Tryz.prog 319 _ eImpl Tryz.func319 (by kernel_rfl) (by kernel_rfl) (by kernel_rfl) (by kernel_rfl)
  have h7 := @run_callFunc_extern Tryz.prog 273 _ eTypeOf Tryz.func273 (by kernel_rfl) (by kernel_rfl) (by kernel_rfl) (by kernel_rfl)
  have h8 := @run_callFunc_extern Tryz.prog 316 _ eAssign Tryz.func316 (by kernel_rfl) (by kernel_rfl) (by kernel_rfl) (by kernel_rfl)
  have h9 := @run_callFunc_extern Tryz.prog 287 _ eElemV Tryz.func287 (by kernel_rfl) (by kernel_rfl) (by kernel_rfl) (by kernel_rfl)
  have h10 := @run_callFunc_extern Tryz.prog 288 _ eSet Tryz.func288 (by kernel_rfl) (by kernel_rfl) (by kernel_rfl) (by kernel_rfl)
  have f0 := asValueOfP
  have f1 := asValueOfE
  have f2 := asTypeV
  have f3 := asMethodKind
  have f4 := asMethodElem
  have f5 := asMethodImplements
  have f6 := asMethodAssignableTo
  have f7 := asKindP
  have f8 := asKindE
  have f9 := asElemT
  have f10 := asImpl
  have f11 := asTypeOfM
  have f12 := asTypeOfE
  have f13 := asAssignM
  have f14 := asAssignE
  have f15 := noAsM
  have f16 := hasUnwrapM
  have f17 := methodUnwrap
  have hlt : 3 < w.heap.size := World.block_lt_of_cell? _ _ hg
  have htl : t.block < w.heap.size := World.block_lt_of_cell? _ _ ht0
  have n8 := asIsNil ⟨w.heap.size, 0, none⟩ t ((w.alloc (.cells #[.pointer (some t)] 271)).alloc (.cells #[.pointer (some ⟨4, 271, none⟩), .pointer (some ⟨w.heap.size, 0, none⟩), .int .u64 150] 310)) (by simp)
  have hg2 : ((w.alloc (.cells #[.pointer (some t)] 271)).alloc (.cells #[.pointer (some ⟨4, 271, none⟩), .pointer (some ⟨w.heap.size, 0, none⟩), .int .u64 150] 310)).cell? ⟨3, 0, none⟩ = some (.iface 323 (.agg #[.pointer (some ⟨4, 228, none⟩)])) := by
    rw [World.cell?_alloc_lt _ _ ⟨3, 0, none⟩ (by simp; omega), World.cell?_alloc_lt _ _ ⟨3, 0, none⟩ hlt]; exact hg
  have el := asElemV ⟨w.heap.size, 0, none⟩ t (((((w.alloc (.cells #[.pointer (some t)] 271)).alloc (.cells #[.pointer (some ⟨4, 271, none⟩), .pointer (some ⟨w.heap.size, 0, none⟩), .int .u64 150] 310))).alloc (.cells #[.pointer (some ⟨4, 271, none⟩), .pointer (some ⟨w.heap.size, 0, none⟩), .int .u64 150] 310)).alloc (.cells #[.int .i64 k, .iface 265 (.agg #[.int .i64 c])] 302)) (by
    rw [World.cell?_alloc_lt _ _ ⟨w.heap.size, 0, none⟩ (by simp; omega), World.cell?_alloc_lt _ _ ⟨w.heap.size, 0, none⟩ (by simp; omega)]; simp)
  have st := asSet t ⟨w.heap.size + 1 + 1 + 1 + 1, 0, none⟩ c old ((((((w.alloc (.cells #[.pointer (some t)] 271)).alloc (.cells #[.pointer (some ⟨4, 271, none⟩), .pointer (some ⟨w.heap.size, 0, none⟩), .int .u64 150] 310))).alloc (.cells #[.pointer (some ⟨4, 271, none⟩), .pointer (some ⟨w.heap.size, 0, none⟩), .int .u64 150] 310)).alloc (.cells #[.int .i64 k, .iface 265 (.agg #[.int .i64 c])] 302)).alloc (.cells #[.int .i64 c] 265))
    (by rw [World.cell?_alloc_at _ _ _ _ (by simp)]; rfl)
    (by rw [World.cell?_alloc_lt _ _ t (by simp; omega), World.cell?_alloc_lt _ _ t (by simp; omega), World.cell?_alloc_lt _ _ t (by simp; omega), World.cell?_alloc_lt _ _ t (by simp; omega), World.cell?_alloc_lt _ _ t htl]; exact ht0)
    (by rw [World.frozen?_alloc_old _ _ t (by simp; omega), World.frozen?_alloc_old _ _ t (by simp; omega), World.frozen?_alloc_old _ _ t (by simp; omega), World.frozen?_alloc_old _ _ t (by simp; omega), World.frozen?_alloc_old _ _ t (Nat.ne_of_lt htl)]; exact hf0)
  go_enter Tryz.func240, Tryz.ntmps240
  go_wp2
  refine wp_loop_rounds 2 ?_
  rw [rounds_succ]
  go_wp2
  rw [rounds_succ]
  go_wp2
  go_ret
  exact ⟨rfl, rfl⟩
end Go.Proofs.YtgebghkcikmfaaaGreatDoor

/-
  The reader of frames as plain data: how far it has come and what was wrong first. By the verifier.
-/
namespace Go.Proofs.YtgebghkcikmfaaaGreatDoor
open Go.RowKit

/-- What can be wrong: none, too short; some none, bytes behind it; some (some c), the code c. -/
abbrev Er := Option (Option Int)
def Er.code : Er → Int
  | none => 1
  | (some none) => 6
  | some (some c) => c
/-- How far the reader has come; what was wrong first, and where. -/
structure Rst where
  pos : Nat
  err : Option (Nat × Er)
def Rst.code (σ : Rst) : Int := match σ.err with
  | none => 0
  | some (_, e) => e.code
def Rst.fail (σ : Rst) (e : Er) : Rst := match σ.err with
  | none => ⟨σ.pos, some (σ.pos, e)⟩
  | some _ => σ
def Rst.take (text : ByteArray) (σ : Rst) (k : Nat) : ByteArray × Rst := match σ.err with
  | none => if text.size < σ.pos + k then (⟨#[]⟩, σ.fail none) else (text.extract σ.pos (σ.pos + k), ⟨σ.pos + k, none⟩)
  | some _ => (⟨#[]⟩, σ)
def Rst.number (text : ByteArray) (σ : Rst) (k : Nat) : Int × Rst := (numOf (σ.take text k).1.data.toList, (σ.take text k).2)
def Rst.atMost (text : ByteArray) (σ : Rst) (most : Int) (k : Nat) (code : Int) : Int × Rst :=
  if most < (σ.number text k).1 then (0, (σ.number text k).2.fail (some (some code))) else σ.number text k
/-- What is wrong, as a value. -/
def Er.val (es em : Addr) : Er → Value
  | none => .iface 338 (.pointer (some es))
  | (some none) => .iface 338 (.pointer (some em))
  | some (some c) => .iface 265 (.agg #[.int .i64 c])
def errVal (es em : Addr) : Option (Nat × Er) → Value
  | none => .nilIface
  | some (k, e) => .iface 302 (.agg #[.int .i64 k, e.val es em])

/-- The package's variables as they were laid. -/
structure Gl (es em : Addr) (w : World) : Prop where
  short : w.cell? ⟨1, 0, none⟩ = some (.iface 338 (.pointer (some es)))
  more : w.cell? ⟨0, 0, none⟩ = some (.iface 338 (.pointer (some em)))
  typ : w.cell? ⟨3, 0, none⟩ = some (.iface 323 (.agg #[.pointer (some ⟨4, 228, none⟩)]))
  ne : es ≠ em
  bs : ∃ c t, w.heap[es.block]? = some (.cells c t (0, 0))
  bm : ∃ c t, w.heap[em.block]? = some (.cells c t (0, 0))
theorem Gl.below {es em : Addr} {w w' : World} (h : Gl es em w) (g : Below w.heap.size w w') : Gl es em w' := by
  obtain ⟨h1, h2, h3, h4, ⟨c, t, h5⟩, ⟨c', t', h6⟩⟩ := h
  exact ⟨by rw [g.cell (World.block_lt_of_cell? _ _ h1)]; exact h1, by rw [g.cell (World.block_lt_of_cell? _ _ h2)]; exact h2, by rw [g.cell (World.block_lt_of_cell? _ _ h3)]; exact h3, h4,
    ⟨c, t, by rw [g.block _ (heap_lt h5)]; exact h5⟩, ⟨c', t', by rw [g.block _ (heap_lt h6)]; exact h6⟩⟩

set_option maxHeartbeats 3200000 in
theorem implCodeOf (es em : Addr) (σ : Rst) (w : World) (G : Hid (Gl es em w)) :
    Calls Tryz.prog 189 #[errVal es em σ.err] w fun e w' => e = .returned (.int .i64 σ.code) ∧ Below w.heap.size w w' := by
  have hS := G.out.short
  have hM := G.out.more
  have lS := World.block_lt_of_cell? _ _ hS
  have lM := World.block_lt_of_cell? _ _ hM
  have lT := World.block_lt_of_cell? _ _ G.out.typ
  obtain ⟨c, t, hbs⟩ := G.out.bs
  obtain ⟨c', t', hbm⟩ := G.out.bm
  have HS : Hid (w.heap[es.block]? = some (.cells c t (0, 0))) := hbs
  have HM : Hid (w.heap[em.block]? = some (.cells c' t' (0, 0))) := hbm
  clear hbs hbm
  obtain ⟨pos, err⟩ := σ
  match err with
  | none =>
    simp only [errVal, Rst.code]
    go_enter Tryz.func189, Tryz.ntmps189
    go_wp2_with fail
    refine (is_nil es _).mono ?_
    rintro e w' ⟨rfl, rfl⟩
    go_wp2_with fail
    refine (is_nil em _).mono ?_
    rintro e w' ⟨rfl, rfl⟩
    go_wp2_with fail
    refine (as_nil _ _).mono ?_
    rintro e w' ⟨rfl, rfl⟩
    go_wp2
    go_ret
    exact ⟨rfl, (Below.refl _ _).alloc (Nat.le_refl _) _⟩
  | some (k, none) =>
    simp only [errVal, Rst.code, Er.val, Er.code]
    go_enter Tryz.func189, Tryz.ntmps189
    go_wp2_with fail
    refine (is_mis_same k es _).mono ?_
    rintro e w' ⟨rfl, rfl⟩
    go_wp2
    go_ret
    exact ⟨rfl, (Below.refl _ _).alloc (Nat.le_refl _) _⟩
  | some (k, (some none)) =>
    simp only [errVal, Rst.code, Er.val, Er.code]
    go_enter Tryz.func189, Tryz.ntmps189
    go_wp2_with fail
    refine (is_mis_other k em es _ _ _ _ _ (Ne.symm G.out.ne) HM.out HS.out).mono ?_
    rintro e w' ⟨rfl, rfl⟩
    go_wp2_with fail
    refine (is_mis_same k em _).mono ?_
    rintro e w' ⟨rfl, rfl⟩
    go_wp2
    go_ret
    exact ⟨rfl, bel_alloc (bel_alloc (Below.refl _ _) (Nat.le_refl _) _) (Nat.le_refl _) _⟩
  | some (k, some (some d)) =>
    simp only [errVal, Rst.code, Er.val, Er.code]
    go_enter Tryz.func189, Tryz.ntmps189
    go_wp2_with fail
    refine (is_mis_ref k d es _).mono ?_
    rintro e w' ⟨rfl, rfl⟩
    go_wp2_with fail
    refine (is_mis_ref k d em _).mono ?_
    rintro e w' ⟨rfl, rfl⟩
    go_wp2_with fail
    have hg := G.out.typ
    refine (as_mis_ref k d _ (.int .i64 0) _ ?_ ?_ ?_).mono ?_
    · rw [World.cell?_alloc_lt _ _ _ (by simp; omega), World.cell?_alloc_lt _ _ _ (by simp; omega), World.cell?_alloc_lt _ _ _ lT]; exact hg
    · rw [World.cell?_alloc_at _ _ _ _ (by simp)]; rfl
    · go_simp
    rintro e w' ⟨rfl, rfl⟩
    go_wp2
    go_ret
    refine ⟨rfl, ?_⟩
    repeat (first | exact Below.refl _ _ | refine bel_alloc ?_ (Nat.le_refl _) _ | refine Below.setCell ?_ (by simp) _)
end Go.Proofs.YtgebghkcikmfaaaGreatDoor

/-
  The walks of the reader's methods: fail, take, number, atMost. By the verifier.
-/
namespace Go.Proofs.YtgebghkcikmfaaaGreatDoor
open Go.RowKit

/-- All blocks but one are as they were. -/
structure Kpt (b : Nat) (w w' : World) : Prop where
  size : w.heap.size ≤ w'.heap.size
  block : ∀ k, k ≠ b → k < w.heap.size → w'.heap[k]? = w.heap[k]?
theorem Kpt.refl (b : Nat) (w : World) : Kpt b w w := ⟨Nat.le_refl _, fun _ _ _ => rfl⟩
theorem Kpt.trans {b : Nat} {x y z : World} (h : Kpt b x y) (g : Kpt b y z) : Kpt b x z :=
  ⟨Nat.le_trans h.size g.size, fun k h1 h2 => (g.block k h1 (Nat.lt_of_lt_of_le h2 h.size)).trans (h.block k h1 h2)⟩
theorem Kpt.of_below {b B : Nat} {w w' : World} (h : Below B w w') (hB : w.heap.size ≤ B) : Kpt b w w' := ⟨h.size, fun k _ hk => h.block k (by omega)⟩
theorem Kpt.drew {b : Nat} {x w : World} (h : Kpt b x w) : Kpt b x w.drew := ⟨h.size, h.block⟩
theorem Kpt.setCell {b o : Nat} {x w : World} (h : Kpt b x w) (v : Value) : Kpt b x (w.setCell ⟨b, o, none⟩ v) :=
  h.trans ⟨by simp [World.setCell], fun k h1 _ => Below.heap_setCell _ _ _ _ h1⟩
theorem Kpt.boxed {b k : Nat} {w w' : World} {cs : Array Value} {t : TypeId} (h : Kpt b w w') (x : Boxed w k cs t) (hk : k ≠ b) : Boxed w' k cs t := by
  unfold Boxed; rw [h.block k hk (heap_lt x)]; exact x
theorem Boxed.lt {w : World} {k : Nat} {cs : Array Value} {t : TypeId} (x : Boxed w k cs t) : k < w.heap.size := heap_lt x
theorem Boxed.setCell {w : World} {k : Nat} {cs : Array Value} {t : TypeId} (x : Boxed w k cs t) (j : Nat) (v : Value) : Boxed (w.setCell ⟨k, j, none⟩ v) k (cs.setIfInBounds j v) t := by
  unfold Boxed at *
  simp only [World.setCell, Array.getElem?_modify, if_true, x, Option.map_some]
  rfl
theorem Boxed.frozen {w : World} {B : Nat} {cs : Array Value} {t : TypeId} (h : Boxed w B cs t) (j : Nat) : w.frozen? ⟨B, j, none⟩ = false := by
  unfold Boxed at h
  simp [World.frozen?, h]

/-- The reader in memory. -/
structure Rd (es em : Addr) (W : World) (b : Nat) (text : ByteArray) (σ : Rst) (w : World) : Prop where
  bel : Below W.heap.size W w
  lo : W.heap.size ≤ b
  box : Boxed w b #[.string text, .int .i64 σ.pos, errVal es em σ.err] 230
  le : σ.pos ≤ text.size

set_option maxHeartbeats 1600000 in
theorem rdFail {es em : Addr} {W : World} {b : Nat} {text : ByteArray} (σ : Rst) (x : Er) (w : World) (R : Hid (Rd es em W b text σ w)) :
    Calls Tryz.prog 235 #[.pointer (some ⟨b, 0, none⟩), x.val es em] w fun e w' => e = .returned (.tuple #[]) ∧ Rd es em W b text (σ.fail x) w' ∧ Kpt b w w' := by
  have c1 := R.out.box.cell 1 rfl
  have c2 := R.out.box.cell 2 rfl
  have f2 := R.out.box.frozen 2
  obtain ⟨pos, err⟩ := σ
  match err with
  | none =>
    simp only [errVal] at c2
    rcases x with _ | _ | c
    all_goals
      simp only [Er.val]
      go_enter Tryz.func235, Tryz.ntmps235
      go_wp2
      go_end0
      refine ⟨rfl, ⟨R.out.bel.setCell R.out.lo _, R.out.lo, ?_, R.out.le⟩, (Kpt.refl _ _).setCell _⟩
      exact R.out.box.setCell 2 _
  | some (k, y) =>
    simp only [errVal] at c2
    generalize x.val es em = xv
    go_enter Tryz.func235, Tryz.ntmps235
    go_wp2
    go_end0
    exact ⟨rfl, R.out, Kpt.refl _ _⟩

set_option maxHeartbeats 1600000 in
theorem rdTake {es em : Addr} {W : World} {b : Nat} {text : ByteArray} (G : Hid (Gl es em W)) (hsz : text.size ≤ 1048576) (σ : Rst) (k : Nat) (hk : k ≤ 2000) (w : World) (R : Hid (Rd es em W b text σ w)) :
    Calls Tryz.prog 238 #[.pointer (some ⟨b, 0, none⟩), .int .i64 k] w fun e w' => e = .returned (.string (σ.take text k).1) ∧ Rd es em W b text (σ.take text k).2 w' ∧ Kpt b w w' := by
  have c0 := R.out.box.cell 0 rfl
  have c1 := R.out.box.cell 1 rfl
  have c2 := R.out.box.cell 2 rfl
  have f1 := R.out.box.frozen 1
  have hle := R.out.le
  have gs : w.cell? ⟨1, 0, none⟩ = some (.iface 338 (.pointer (some es))) := (G.out.below R.out.bel).short
  obtain ⟨pos, err⟩ := σ
  simp only at c1 c2 hle
  match err with
  | some (q, y) =>
    simp only [errVal, Rst.take] at c2 ⊢
    clear c0 c1 gs
    go_enter Tryz.func238, Tryz.ntmps238
    go_wp2
    go_ret
    exact ⟨rfl, R.out, Kpt.refl _ _⟩
  | none =>
    by_cases h : text.size < pos + k
    · have F := fun w1 (R1 : Hid (Rd es em W b text ⟨pos, none⟩ w1)) => rdFail (x := none) ⟨pos, none⟩ w1 R1
      simp only [errVal, Er.val] at c2 F
      have F' : Hid _ := F
      clear F
      have ht : Hid (Rst.take text ⟨pos, none⟩ k = (⟨#[]⟩, Rst.fail ⟨pos, none⟩ none)) := by
        show Rst.take text ⟨pos, none⟩ k = _
        simp [Rst.take, h]
      rw [ht.out]
      have R1 : Hid (Rd es em W b text ⟨pos, none⟩ w.drew) := ⟨R.out.bel.drew, R.out.lo, R.out.box, R.out.le⟩
      have h' : (text.size : Int) - pos < k := by omega
      go_enter Tryz.func238, Tryz.ntmps238
      go_wp2
      go_region
      go_wp2_with fail
      refine (F'.out _ R1).mono ?_
      rintro e w' ⟨rfl, R2, K2⟩
      have H2 : Hid (Rd es em W b text (Rst.fail ⟨pos, none⟩ none) w' ∧ Kpt b w w') := ⟨R2, (Kpt.refl _ _).drew.trans K2⟩
      clear R2 K2
      go_wp2
      go_ret
      exact ⟨rfl, H2.out⟩
    · have ht : Hid (Rst.take text ⟨pos, none⟩ k = (text.extract pos (pos + k), ⟨pos + k, none⟩)) := by
        show Rst.take text ⟨pos, none⟩ k = _
        simp [Rst.take, h]
      rw [ht.out]
      simp only [errVal] at c2
      have h' : ¬ (text.size : Int) - pos < k := by omega
      have hp : (pos : Int) + k ≤ text.size := by omega
      go_enter Tryz.func238, Tryz.ntmps238
      go_wp2
      go_region
      go_wp2
      go_region
      go_wp2
      go_ret
      refine ⟨rfl, ⟨?_, R.out.lo, ?_, by simp only; omega⟩, ?_⟩
      · exact (R.out.bel.drew.setCell R.out.lo _).drew
      · have := R.out.box.setCell 1 (.int .i64 ((pos : Int) + k))
        exact this
      · exact ((Kpt.refl _ _).drew.setCell _).drew

theorem numOf_take (l : List UInt8) (j : Nat) (hj : j < l.length) : numOf (l.take (j + 1)) = numOf (l.take j) * 256 + ((l.getD j 0).toNat : Int) := by
  rw [List.take_succ_eq_append_getElem hj, numOf_append]; simp [List.getElem?_eq_getElem hj]
theorem numOf_small (l : List UInt8) (j : Nat) (hl : l.length ≤ 4) (hj : j < l.length) : 0 ≤ numOf (l.take j) ∧ numOf (l.take j) < 16777216 := by
  refine ⟨numOf_nonneg _, ?_⟩
  have h := numOf_lt (l.take j)
  rw [List.length_take, Nat.min_eq_left (Nat.le_of_lt hj)] at h
  have : (256 : Int) ^ j ≤ 256 ^ 3 := by
    match j, (show j ≤ 3 by omega) with
    | 0, _ => decide
    | 1, _ => decide
    | 2, _ => decide
    | 3, _ => decide
  omega
theorem Rst.take_size (text : ByteArray) (σ : Rst) (k : Nat) : (σ.take text k).1.size ≤ k := by
  unfold Rst.take
  split
  · split
    · exact Nat.zero_le _
    · simp only [ByteArray.size_extract]; omega
  · exact Nat.zero_le _

set_option maxHeartbeats 1600000 in
theorem rdNumber {es em : Addr} {W : World} {b : Nat} {text : ByteArray} (G : Hid (Gl es em W)) (hsz : text.size ≤ 1048576) (σ : Rst) (k : Nat) (hk : k ≤ 4) (w : World) (R : Hid (Rd es em W b text σ w)) :
    Calls Tryz.prog 234 #[.pointer (some ⟨b, 0, none⟩), .int .i64 k] w fun e w' => e = .returned (.int .i64 (σ.number text k).1) ∧ Rd es em W b text (σ.number text k).2 w' ∧ Kpt b w w' := by
  have T := rdTake G hsz σ k (by omega) w R
  have hs4 := Rst.take_size text σ k
  simp only [Rst.number]
  generalize (σ.take text k).2 = σ' at T ⊢
  generalize (σ.take text k).1 = s at T hs4 ⊢
  have T' : Hid _ := T
  clear T
  have hcv := fun wx => Lib.run_convert_string_bytes (P := Tryz.prog) wx 9 224 5 s Tryz.underlying9 Tryz.underlying224 Tryz.underlying5
  go_enter Tryz.func234, Tryz.ntmps234
  go_wp2_with fail
  refine Calls.mono T'.out ?_
  rintro e w1 ⟨rfl, R1, K1⟩
  have hb1 : b < w1.heap.size := R1.box.lt
  have hbw := Joins.below_bytesWorld w1.heap.size w1 5 s (Nat.le_refl _)
  have H2 : Hid (Rd es em W b text σ' (Lib.bytesWorld w1 5 s) ∧ Kpt b w (Lib.bytesWorld w1 5 s)) :=
    ⟨⟨R1.bel.trans (hbw.mono R1.bel.size), R1.lo, R1.box.below hb1 hbw, R1.le⟩, K1.trans (Kpt.of_below hbw (Nat.le_refl _))⟩
  have hcell : Hid (∀ j, j < s.size → (Lib.bytesWorld w1 5 s).cell? ⟨w1.heap.size, j, none⟩ = some (.int .u8 (s.data.toList.getD j 0).toNat)) := fun j hj => Lib.bytesWorld_cell w1 5 s j hj
  clear R1 K1 hbw
  go_wp2
  generalize Lib.bytesWorld w1 5 s = w2 at H2 hcell ⊢
  generalize grownCap w1 s.size 0 5 = cp
  have Hl : Hid (s.data.toList.length = s.size) := by
    show s.data.toList.length = s.size
    rw [Array.length_toList]; rfl
  go_loop [5, 13] (fun n i => ∃ j : Nat, j ≤ s.size ∧ i = .int .i64 j ∧ n = .int .i64 (numOf (s.data.toList.take j))) (fun _ i => s.size - (intOf i).toNat)
  case atStart => exact ⟨0, Nat.zero_le _, rfl, rfl⟩
  case round =>
    obtain ⟨j, hj, rfl, rfl⟩ := hrel
    by_cases hlt : j < s.size
    · have c1 := hcell.out j hlt
      have hnext : Hid (numOf (s.data.toList.take (j + 1)) = numOf (s.data.toList.take j) * 256 + ((s.data.toList.getD j 0).toNat : Int)) := numOf_take _ j (by rw [Hl.out]; exact hlt)
      obtain ⟨n0, n1⟩ := numOf_small s.data.toList j (by rw [Hl.out]; omega) (by rw [Hl.out]; exact hlt)
      have hx := (s.data.toList.getD j 0).toNat_lt
      generalize (s.data.toList.getD j 0).toNat = x at c1 hnext hx
      generalize numOf (s.data.toList.take j) = n at hnext n0 n1 ⊢
      have hor := or_byte n x n0 (by omega) (by omega) (by omega)
      go_wp2
      go_round
      case rel => exact ⟨j + 1, by omega, by go_num, by rw [hnext.out]⟩
      case measure => simp [intOf]; omega
    · go_wp2
      go_ret
      have hjs : s.data.toList.take j = s.data.toList := List.take_of_length_le (by rw [Hl.out]; omega)
      rw [hjs]
      exact ⟨rfl, H2.out⟩
end Go.Proofs.YtgebghkcikmfaaaGreatDoor

/-
  The library's contracts that the proof uses, laid at this translation. By the verifier, by program.
-/
namespace Go.Proofs
open Go.Shelf
def Tryz.laysM316_ren : Go.Shelf.Ren := ⟨fun | 316 => 272 | n => n, fun | 9 => 9 | 3 => 3 | 4 => 4 | 37 => 224 | 0 => 0 | 127 => 321 | 5 => 5 | n => n, fun | n => n⟩
theorem Tryz.laysM316 : Go.Proofs.LaysM.n316 Tryz.prog Tryz.laysM316_ren := {
  mixed := by kernel_rfl
  f316 := Tryz.func272.trans (congrArg some (by kernel_rfl))
  t0 := Tryz.underlying0
  a0 := Tryz.isAgg0
  z0 := Tryz.sizeOf0
  v0 := Tryz.zeroValue0
  t3 := Tryz.underlying3
  a3 := Tryz.isAgg3
  z3 := Tryz.sizeOf3
  v3 := Tryz.zeroValue3
  t4 := Tryz.underlying4
  a4 := Tryz.isAgg4
  z4 := Tryz.sizeOf4
  v4 := Tryz.zeroValue4
  t9 := Tryz.underlying9
  a9 := Tryz.isAgg9
  z9 := Tryz.sizeOf9
  v9 := Tryz.zeroValue9
  t37 := Tryz.underlying224
  a37 := Tryz.isAgg224
  z37 := Tryz.sizeOf224
  v37 := Tryz.zeroValue224
  t127 := Tryz.underlying321
  a127 := Tryz.isAgg321
  z127 := Tryz.sizeOf321
  v127 := Tryz.zeroValue321
  t5 := Tryz.underlying5
  a5 := Tryz.isAgg5
  z5 := Tryz.sizeOf5
  v5 := Tryz.zeroValue5
  i0 := by kernel_rfl
  i3 := by kernel_rfl
  i4 := by kernel_rfl
  i5 := by kernel_rfl
  i9 := by kernel_rfl
  i37 := by kernel_rfl
  i127 := by kernel_rfl }
open Go.RowKit in
theorem Tryz.stringslite_Clone (s : ByteArray) (w : World) (hlim : s.size ≤ 281474976710656) :
    Calls Tryz.prog 272 #[.string s] w fun e w' => e = .returned (.string s) ∧ Below w.heap.size w w' := Any.stringslite_Clone Tryz.laysM316 s w hlim
end Go.Proofs

/-
  The walks of the reader's atMost and of strings.Clone; a scope with several labels. By the verifier.
-/
namespace Go.Proofs.YtgebghkcikmfaaaGreatDoor
open Go.RowKit

set_option maxHeartbeats 1600000 in
theorem rdMost {es em : Addr} {W : World} {b : Nat} {text : ByteArray} (G : Hid (Gl es em W)) (hsz : text.size ≤ 1048576) (σ : Rst) (most : Int) (k : Nat) (hk : k ≤ 4) (code : Int) (w : World) (R : Hid (Rd es em W b text σ w)) :
    Calls Tryz.prog 236 #[.pointer (some ⟨b, 0, none⟩), .int .i64 most, .int .i64 k, .int .i64 code] w fun e w' => e = .returned (.int .i64 (σ.atMost text most k code).1) ∧ Rd es em W b text (σ.atMost text most k code).2 w' ∧ Kpt b w w' := by
  have T := rdNumber G hsz σ k hk w R
  have F := fun w1 (R1 : Hid (Rd es em W b text (σ.number text k).2 w1)) => rdFail (σ.number text k).2 (some (some code)) w1 R1
  simp only [Rst.atMost, Er.val] at F ⊢
  generalize hσ : (σ.number text k).2 = σ' at T F ⊢
  generalize hn : (σ.number text k).1 = n at T ⊢
  have hnum : σ.number text k = (n, σ') := by rw [← hσ, ← hn]
  rw [hnum]
  have T' : Hid _ := T
  have F' : Hid _ := F
  clear T F hσ hn hnum
  by_cases h : most < n
  · simp only [h, if_true]
    go_enter Tryz.func236, Tryz.ntmps236
    go_wp2_with fail
    refine Calls.mono T'.out ?_
    rintro e w1 ⟨rfl, R1, K1⟩
    have H1 : Hid (Rd es em W b text σ' w1 ∧ Kpt b w w1) := ⟨R1, K1⟩
    clear R1 K1
    go_wp2_with fail
    refine (F'.out _ H1.out.1).mono ?_
    rintro e w2 ⟨rfl, R2, K2⟩
    have H2 : Hid (Rd es em W b text (σ'.fail (some (some code))) w2 ∧ Kpt b w w2) := ⟨R2, H1.out.2.trans K2⟩
    clear R2 K2
    go_wp2
    go_ret
    exact ⟨rfl, H2.out⟩
  · simp only [h, if_false]
    go_enter Tryz.func236, Tryz.ntmps236
    go_wp2_with fail
    refine Calls.mono T'.out ?_
    rintro e w1 ⟨rfl, R1, K1⟩
    have H1 : Hid (Rd es em W b text σ' w1 ∧ Kpt b w w1) := ⟨R1, K1⟩
    clear R1 K1
    go_wp2
    go_ret
    exact ⟨rfl, H1.out⟩

theorem clone (s : ByteArray) (hs : s.size ≤ 1048576) (w : World) :
    Calls Tryz.prog 237 #[.string s] w fun e w' => e = .returned (.string s) ∧ Below w.heap.size w w' := by
  go_enter Tryz.func237, Tryz.ntmps237
  go_wp2_with fail
  refine (Tryz.stringslite_Clone s w (by omega)).mono ?_
  rintro e w1 ⟨rfl, b1⟩
  have B : Hid (Below w.heap.size w w1) := b1
  clear b1
  go_wp2
  go_ret
  exact ⟨rfl, B.out⟩

/-- As Q; by a goto to a label l: J l. -/
def jumps (J : Nat → Act → World → Prop) (Q : Exit → Act → World → Prop) : Exit → Act → World → Prop
  | .goto l, a, w => J l a w
  | e, a, w => Q e a w
theorem jumps_ret (J : Nat → Act → World → Prop) (Q : Exit → Act → World → Prop) (a : Act) (w : World) : jumps J Q .ret a w = Q .ret a w := rfl

end Go.Proofs.YtgebghkcikmfaaaGreatDoor

/-
  What the reader's method frame makes of a text, as plain data; what it holds in memory meanwhile. By the verifier.
-/
namespace Go.Proofs.YtgebghkcikmfaaaGreatDoor
open Go.RowKit

/-- From the byte 2 on. -/
def Rst.headRun (text : ByteArray) (dest frm : Int) (T : List Int) (σ : Rst) : Fr × Rst :=
  let a := σ.number text 4
  let c := a.2.number text 4
  let d := c.2.number text 1
  let e := d.2.number text 2
  let g := e.2.number text 2
  let m := g.2.atMost text 3 1 4
  let s := m.2.number text 2
  let z := s.2.atMost text 1500 2 5
  let t := z.2.take text z.1.toNat
  (⟨dest, frm, T, a.1, c.1, d.1, e.1, g.1, m.1, s.1, t.1⟩, if t.2.pos < text.size then t.2.fail (some none) else t.2)
/-- From a kind's byte on: so many tags may still come. -/
def Rst.kindRun (text : ByteArray) (dest frm : Int) : Nat → Rst → List Int → Fr × Rst
  | 0, σ, T => let n := σ.number text 1
    if n.1 = 1 then (⟨dest, frm, T, 0, 0, 0, 0, 0, 0, 0, ⟨#[]⟩⟩, n.2.fail (some (some 2)))
    else if n.1 = 2 then n.2.headRun text dest frm T
    else (⟨dest, frm, T, 0, 0, 0, 0, 0, 0, 0, ⟨#[]⟩⟩, n.2.fail (some (some 3)))
  | k + 1, σ, T => let n := σ.number text 1
    if n.1 = 1 then (n.2.atMost text 4095 2 2).2.kindRun text dest frm k (T ++ [(n.2.atMost text 4095 2 2).1])
    else if n.1 = 2 then n.2.headRun text dest frm T
    else (⟨dest, frm, T, 0, 0, 0, 0, 0, 0, 0, ⟨#[]⟩⟩, n.2.fail (some (some 3)))
/-- The whole. -/
def frameRun (text : ByteArray) : Fr × Rst :=
  let a := (⟨0, none⟩ : Rst).number text 2
  let c := a.2.number text 2
  c.2.kindRun text a.1 c.1 2 []

/-- The method's own memory: the reader, the answer's variable, the frame that is read. -/
structure RFs (es em : Addr) (W : World) (b : Nat) (text : ByteArray) (w0 : World) (σ : Rst) (sl : Value) (T : List Int) (cs : Array Value) (w : World) : Prop where
  rd : Rd es em W b text σ w
  res : Boxed w w0.heap.size zeroFr 175
  fr : Boxed w (w0.heap.size + 1) cs 175
  row : IRow (w0.heap.size + 1 + 1) w sl T
  lt : b < w0.heap.size
  kp : Kpt b w0 w
theorem RFs.step {es em : Addr} {W : World} {b : Nat} {text : ByteArray} {w0 : World} {σ σ' : Rst} {sl : Value} {T : List Int} {cs : Array Value} {w w' : World} (h : RFs es em W b text w0 σ sl T cs w) (r : Rd es em W b text σ' w') (k : Kpt b w w') : RFs es em W b text w0 σ' sl T cs w' :=
  ⟨r, k.boxed h.res (by have := h.lt; omega), k.boxed h.fr (by have := h.lt; omega), h.row.carry fun j hj hl => k.block j (by have := h.lt; omega) hl, h.lt, h.kp.trans k⟩
theorem RFs.drew {es em : Addr} {W : World} {b : Nat} {text : ByteArray} {w0 : World} {σ : Rst} {sl : Value} {T : List Int} {cs : Array Value} {w : World} (h : RFs es em W b text w0 σ sl T cs w) : RFs es em W b text w0 σ sl T cs w.drew :=
  h.step ⟨h.rd.bel.drew, h.rd.lo, h.rd.box, h.rd.le⟩ (Kpt.refl _ _).drew
theorem RFs.below {es em : Addr} {W : World} {b : Nat} {text : ByteArray} {w0 : World} {σ : Rst} {sl : Value} {T : List Int} {cs : Array Value} {w w' : World} (h : RFs es em W b text w0 σ sl T cs w) (g : Below w.heap.size w w') : RFs es em W b text w0 σ sl T cs w' :=
  h.step ⟨h.rd.bel.trans (g.mono h.rd.bel.size), h.rd.lo, h.rd.box.below h.rd.box.lt g, h.rd.le⟩ (Kpt.of_below g (Nat.le_refl _))
theorem RFs.store {es em : Addr} {W : World} {b : Nat} {text : ByteArray} {w0 : World} {σ : Rst} {sl : Value} {T : List Int} {cs : Array Value} {w : World} (h : RFs es em W b text w0 σ sl T cs w) (j : Nat) (v : Value) : RFs es em W b text w0 σ sl T (cs.setIfInBounds j v) (w.setCell ⟨w0.heap.size + 1, j, none⟩ v) := by
  have hb := h.lt
  have hlo := h.rd.lo
  have o : ∀ k, k ≠ w0.heap.size + 1 → (w.setCell ⟨w0.heap.size + 1, j, none⟩ v).heap[k]? = w.heap[k]? := fun k hk => Below.heap_setCell _ _ _ _ hk
  refine ⟨⟨h.rd.bel.setCell (by show W.heap.size ≤ w0.heap.size + 1; omega) _, h.rd.lo, ?_, h.rd.le⟩, ?_, h.fr.setCell j v, h.row.carry fun k hk _ => o k (by omega), h.lt, ?_⟩
  · unfold Boxed; rw [o b (by omega)]; exact h.rd.box
  · unfold Boxed; rw [o _ (by omega)]; exact h.res
  · exact ⟨by rw [show (w.setCell ⟨w0.heap.size + 1, j, none⟩ v).heap.size = w.heap.size by simp [World.setCell]]; exact h.kp.size, fun k h1 h2 => (o k (by omega)).trans (h.kp.block k h1 h2)⟩
/-- What is known of the method's slots at a label. -/
def frAct (b B : Nat) (u : Nat → Value) : Act := { tmps := #[.pointer (some ⟨b, 0, none⟩), u 1, .pointer (some ⟨B, 0, none⟩), .pointer (some ⟨B + 1, 0, none⟩), u 4, u 5, u 6, u 7, u 8, u 9, u 10, u 11, u 12, u 13, u 14, u 15, u 16, u 17, u 18, u 19, u 20, u 21, u 22, u 23, u 24, u 25, u 26, u 27, u 28, u 29, u 30, u 31, u 32, u 33, u 34, u 35, u 36, u 37, u 38, u 39, u 40, u 41, u 42, u 43, u 44, u 45, u 46, u 47, u 48, u 49, u 50, u 51, u 52, u 53, u 54, u 55, u 56, u 57, u 58, u 59, u 60, u 61, u 62, u 63, u 64, u 65, u 66, u 67, u 68, u 69, u 70, u 71, u 72, u 73, u 74, u 75, u 76, u 77], defers := [] }
end Go.Proofs.YtgebghkcikmfaaaGreatDoor

/-
  What holds at the three labels of the reader's method frame, and at its end. By the verifier.
-/
namespace Go.Proofs.YtgebghkcikmfaaaGreatDoor
open Go.RowKit

/-- A scope in which the run jumps to several labels, with a number that every pass lowers. -/
theorem scope_ghost {P : Program} {a : Act} {w : World} {Q : Exit → Act → World → Prop} {c : Code} (r0 r1 r2 : Code) (h0 : findLabel c 0 = some r0) (h1 : findLabel c 1 = some r1) (h2 : findLabel c 2 = some r2)
    (J0 J1 J2 : Nat → Act → World → Prop) (J : Nat → Nat → Act → World → Prop) (hJ : J = fun n l a w => (l = 0 ∧ J0 n a w) ∨ (l = 1 ∧ J1 n a w) ∨ (l = 2 ∧ J2 n a w))
    (first : c.wp P (jumps (fun l a w => ∃ n, J n l a w) Q) a w)
    (p0 : ∀ n a w, J0 n a w → r0.wp P (jumps (fun l' a' w' => ∃ m, m < n ∧ J m l' a' w') Q) a w)
    (p1 : ∀ n a w, J1 n a w → r1.wp P (jumps (fun l' a' w' => ∃ m, m < n ∧ J m l' a' w') Q) a w)
    (p2 : ∀ n a w, J2 n a w → r2.wp P (jumps (fun l' a' w' => ∃ m, m < n ∧ J m l' a' w') Q) a w) : (Code.scope c).wp P Q a w := by
  intro b k cs
  have key : ∀ n l a w, J n l a w → ∃ r, gotoIn l (.inScope c :: k) = some (.code r :: .inScope c :: k) ∧ ∃ e a' w', Q e a' w' ∧ Arrives P (lone (b.at a (.code r :: .inScope c :: k)) cs w) b k cs e a' w' := by
    intro n
    induction n using Nat.strongRecOn with
    | _ n ih =>
      intro l a w hh
      obtain ⟨r, hg, hp⟩ : ∃ r, gotoIn l (.inScope c :: k) = some (.code r :: .inScope c :: k) ∧ r.wp P (jumps (fun l' a' w' => ∃ m, m < n ∧ J m l' a' w') Q) a w := by
        rw [hJ] at hh
        rcases hh with ⟨rfl, hh⟩ | ⟨rfl, hh⟩ | ⟨rfl, hh⟩
        · exact ⟨r0, by simp [gotoIn, h0], p0 n a w hh⟩
        · exact ⟨r1, by simp [gotoIn, h1], p1 n a w hh⟩
        · exact ⟨r2, by simp [gotoIn, h2], p2 n a w hh⟩
      refine ⟨r, hg, ?_⟩
      obtain ⟨e, a₁, w₁, hq, harr⟩ := hp b (.inScope c :: k) cs
      cases e with
      | normal => exact ⟨.normal, a₁, w₁, hq, Steps.trans harr (.one step_inScope)⟩
      | exit id => exact ⟨.exit id, a₁, w₁, hq, fun k' hk => harr k' (by simp [exitTo, hk])⟩
      | goto l' =>
        obtain ⟨m, hlt, hJ'⟩ := hq
        obtain ⟨r', hg', e₂, a₂, w₂, hq₂, harr₂⟩ := ih m hlt l' a₁ w₁ hJ'
        exact ⟨e₂, a₂, w₂, hq₂, .of_steps (harr _ hg') harr₂⟩
      | ret => exact ⟨_, a₁, w₁, hq, harr⟩
      | panic ch => exact ⟨_, a₁, w₁, hq, harr⟩
      | outgrown => exact ⟨_, a₁, w₁, hq, harr⟩
  obtain ⟨e, a₁, w₁, hq, harr⟩ := first b (.inScope c :: k) cs
  cases e with
  | normal => exact ⟨.normal, a₁, w₁, hq, .head step_scope (Steps.trans harr (.one step_inScope))⟩
  | exit id => exact ⟨.exit id, a₁, w₁, hq, fun k' hk => .head step_scope (harr k' (by simp [exitTo, hk]))⟩
  | goto l' =>
    obtain ⟨n, hJ'⟩ := hq
    obtain ⟨r', hg', e₂, a₂, w₂, hq₂, harr₂⟩ := key n l' a₁ w₁ hJ'
    exact ⟨e₂, a₂, w₂, hq₂, .of_steps (.head step_scope (harr _ hg')) harr₂⟩
  | ret => exact ⟨_, a₁, w₁, hq, .of_steps (.one step_scope) harr⟩
  | panic ch => exact ⟨_, a₁, w₁, hq, .of_steps (.one step_scope) harr⟩
  | outgrown => exact ⟨_, a₁, w₁, hq, .of_steps (.one step_scope) harr⟩

/-- What is known of the method's slots at a label. -/
structure Slots (b B : Nat) (t : Act) : Prop where
  size : t.tmps.size = 78
  s0 : t.tmps.getD 0 undef = .pointer (some ⟨b, 0, none⟩)
  s2 : t.tmps.getD 2 undef = .pointer (some ⟨B, 0, none⟩)
  s3 : t.tmps.getD 3 undef = .pointer (some ⟨B + 1, 0, none⟩)
  defers : t.defers = []
theorem Slots.act {b B : Nat} {t : Act} (h : Slots b B t) : ∃ u, t = frAct b B u := by
  obtain ⟨tmps, defers⟩ := t
  obtain ⟨hs, h0, h2, h3, hd⟩ := h
  simp only at hs h0 h2 h3 hd
  subst hd
  refine ⟨fun j => tmps.getD j undef, ?_⟩
  have e : tmps = ((List.range 78).map fun j => tmps.getD j undef).toArray := by
    apply Array.ext
    · simp [hs]
    · intro i h1 _
      simp [Array.getElem?_eq_getElem h1]
  have e2 : ((List.range 78).map fun j => tmps.getD j undef).toArray = #[tmps.getD 0 undef, tmps.getD 1 undef, tmps.getD 2 undef, tmps.getD 3 undef, tmps.getD 4 undef, tmps.getD 5 undef, tmps.getD 6 undef, tmps.getD 7 undef, tmps.getD 8 undef, tmps.getD 9 undef, tmps.getD 10 undef, tmps.getD 11 undef, tmps.getD 12 undef, tmps.getD 13 undef, tmps.getD 14 undef, tmps.getD 15 undef, tmps.getD 16 undef, tmps.getD 17 undef, tmps.getD 18 undef, tmps.getD 19 undef, tmps.getD 20 undef, tmps.getD 21 undef, tmps.getD 22 undef, tmps.getD 23 undef, tmps.getD 24 undef, tmps.getD 25 undef, tmps.getD 26 undef, tmps.getD 27 undef, tmps.getD 28 undef, tmps.getD 29 undef, tmps.getD 30 undef, tmps.getD 31 undef, tmps.getD 32 undef, tmps.getD 33 undef, tmps.getD 34 undef, tmps.getD 35 undef, tmps.getD 36 undef, tmps.getD 37 undef, tmps.getD 38 undef, tmps.getD 39 undef, tmps.getD 40 undef, tmps.getD 41 undef, tmps.getD 42 undef, tmps.getD 43 undef, tmps.getD 44 undef, tmps.getD 45 undef, tmps.getD 46 undef, tmps.getD 47 undef, tmps.getD 48 undef, tmps.getD 49 undef, tmps.getD 50 undef, tmps.getD 51 undef, tmps.getD 52 undef, tmps.getD 53 undef, tmps.getD 54 undef, tmps.getD 55 undef, tmps.getD 56 undef, tmps.getD 57 undef, tmps.getD 58 undef, tmps.getD 59 undef, tmps.getD 60 undef, tmps.getD 61 undef, tmps.getD 62 undef, tmps.getD 63 undef, tmps.getD 64 undef, tmps.getD 65 undef, tmps.getD 66 undef, tmps.getD 67 undef, tmps.getD 68 undef, tmps.getD 69 undef, tmps.getD 70 undef, tmps.getD 71 undef, tmps.getD 72 undef, tmps.getD 73 undef, tmps.getD 74 undef, tmps.getD 75 undef, tmps.getD 76 undef, tmps.getD 77 undef] := rfl
  simp only [frAct]
  rw [Act.mk.injEq]
  exact ⟨(e.trans e2).trans (by rw [h0, h2, h3]), rfl⟩

/-- Behind a byte 1. -/
def Rst.tagRun (text : ByteArray) (dest frm : Int) : Nat → Rst → List Int → Fr × Rst
  | 0, σ, T => (⟨dest, frm, T, 0, 0, 0, 0, 0, 0, 0, ⟨#[]⟩⟩, σ.fail (some (some 2)))
  | k + 1, σ, T => (σ.atMost text 4095 2 2).2.kindRun text dest frm k (T ++ [(σ.atMost text 4095 2 2).1])
theorem Rst.kindRun_eq (text : ByteArray) (dest frm : Int) (k : Nat) (σ : Rst) (T : List Int) : σ.kindRun text dest frm k T =
    if (σ.number text 1).1 = 1 then (σ.number text 1).2.tagRun text dest frm k T
    else if (σ.number text 1).1 = 2 then (σ.number text 1).2.headRun text dest frm T
    else (⟨dest, frm, T, 0, 0, 0, 0, 0, 0, 0, ⟨#[]⟩⟩, (σ.number text 1).2.fail (some (some 3))) := by
  cases k <;> rfl

def Jtag (es em : Addr) (W : World) (b : Nat) (text : ByteArray) (w0 : World) (n : Nat) (a : Act) (w : World) : Prop :=
  ∃ (dest frm : Int) (σ : Rst) (sl : Value) (T : List Int) (k : Nat), Slots b w0.heap.size a ∧ n = 2 * k + 1 ∧ T.length + k = 2 ∧ RFs es em W b text w0 σ sl T (csOf dest frm sl) w ∧ σ.tagRun text dest frm k T = frameRun text
def Jhead (es em : Addr) (W : World) (b : Nat) (text : ByteArray) (w0 : World) (n : Nat) (a : Act) (w : World) : Prop :=
  ∃ (dest frm : Int) (σ : Rst) (sl : Value) (T : List Int), Slots b w0.heap.size a ∧ n = 0 ∧ T.length ≤ 2 ∧ RFs es em W b text w0 σ sl T (csOf dest frm sl) w ∧ σ.headRun text dest frm T = frameRun text
def Jkind (es em : Addr) (W : World) (b : Nat) (text : ByteArray) (w0 : World) (n : Nat) (a : Act) (w : World) : Prop :=
  ∃ (dest frm : Int) (σ : Rst) (sl : Value) (T : List Int) (k : Nat), Slots b w0.heap.size a ∧ n = 2 * k + 2 ∧ T.length + k = 2 ∧ RFs es em W b text w0 σ sl T (csOf dest frm sl) w ∧ σ.kindRun text dest frm k T = frameRun text

/-- What the call leaves. -/
def FrPost (es em : Addr) (W : World) (b : Nat) (text : ByteArray) (w0 : World) (e : Ending) (w' : World) : Prop :=
  ∃ a cap, e = .returned ((frameRun text).1.val a cap) ∧ IRow (w0.heap.size + 1 + 1) w' (.slice a (frameRun text).1.tags.length cap) (frameRun text).1.tags ∧ Rd es em W b text (frameRun text).2 w' ∧ Kpt b w0 w'
theorem frEnd {es em : Addr} {W : World} {b : Nat} {text : ByteArray} {w0 : World} {σ : Rst} {a : Option Addr} {cap : Nat} {f : Fr} {w : World} (h : RFs es em W b text w0 σ (.slice a f.tags.length cap) f.tags #[.int .i64 f.to, .int .i64 f.frm, .slice a f.tags.length cap, .int .i64 f.src, .int .i64 f.dst, .int .i64 f.proto, .int .i64 f.sport, .int .i64 f.dport, .int .i64 f.mark, .int .i64 f.sum, .string f.body] w) (hr : (f, σ) = frameRun text)
    (t : Act) (ht : t.tmps.getD 2 undef = .pointer (some ⟨w0.heap.size, 0, none⟩)) (hd : t.defers = []) :
    bodyPost Tryz.prog Tryz.f188 (FrPost es em W b text w0) .ret t (w.setRow w0.heap.size #[.int .i64 f.to, .int .i64 f.frm, .slice a f.tags.length cap, .int .i64 f.src, .int .i64 f.dst, .int .i64 f.proto, .int .i64 f.sport, .int .i64 f.dport, .int .i64 f.mark, .int .i64 f.sum, .string f.body]) := by
  have hb := h.lt
  have hlo := h.rd.lo
  have hg := setRow_heap w w0.heap.size _ #[.int .i64 f.to, .int .i64 f.frm, .slice a f.tags.length cap, .int .i64 f.src, .int .i64 f.dst, .int .i64 f.proto, .int .i64 f.sport, .int .i64 f.dport, .int .i64 f.mark, .int .i64 f.sum, .string f.body] _ _ h.res
  have o : ∀ (cs : Array Value) k, k ≠ w0.heap.size → (w.setRow w0.heap.size cs).heap[k]? = w.heap[k]? := fun cs k hk => setRow_other _ _ _ _ hk
  refine bodyPost_ret (results_cell_row Tryz.results188 _ _ w0.heap.size _ _ _ _ ht hg Tryz.underlying175 rfl (by kernel_rfl)) hd ⟨a, cap, ?_, ?_, ?_, ?_⟩
  · rw [← hr]; rfl
  · rw [← hr]
    exact h.row.carry fun k hk _ => o _ k (by omega)
  · rw [← hr]
    refine ⟨below_setRow h.rd.bel (by omega) _, h.rd.lo, ?_, h.rd.le⟩
    unfold Boxed; rw [o _ b (by omega)]; exact h.rd.box
  · exact ⟨by rw [size_setRow]; exact h.kp.size, fun k h1 h2 => (o _ k (by omega)).trans (h.kp.block k h1 h2)⟩
end Go.Proofs.YtgebghkcikmfaaaGreatDoor

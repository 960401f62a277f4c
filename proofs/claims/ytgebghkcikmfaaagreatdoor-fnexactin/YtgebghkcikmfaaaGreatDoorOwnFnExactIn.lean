/-
  At every gate and every text In answers as its model does, field by field; it writes into no argument, and what it answers owns its memory; the variables errShort, errMore and errors.errorType hold what the program's text lays into them (the tied card).
-/
import Derived.Test.YtgebghkcikmfaaaGreatDoorCards
import Derived.Test.YtgebghkcikmfaaaGreatDoorTie
import Derived.Test.YtgebghkcikmfaaaGreatDoorQJ52WalkIn
import Derived.Test.YtgebghkcikmfaaaGreatDoorQJ53GtOpen
import Derived.ChangeOld
import Derived.WalkKit
import Derived.ProofKit
import Derived.OpenShut
import Derived.ShutString
import Derived.Deep.DeepHandedRow
import Derived.Stop.LaidErr
import Derived.Stop.LaidTwo
import Derived.LaidHandle
import Derived.LaidLaws
import Derived.Below
namespace Go.Proofs.YtgebghkcikmfaaaGreatDoor.fnExactIn
open Go.ChangeShapes Go.WideShapes Go.ChangeAt Go.RowKit
open Go.Extern.Stop Go.Stop Go.Extern
open Go.ChangeMaps (open_string shut_string)
set_option linter.unusedVariables false

theorem own : ownKnob Tryz.prog.godebug = none := by kernel_rfl
theorem laidOut : laidOutB Tryz.prog = true := by kernel_rfl
theorem gM : Tryz.prog.globalNamed "loop.example/g00316/impl.errMore" = some 0 := by kernel_rfl
theorem gS : Tryz.prog.globalNamed "loop.example/g00316/impl.errShort" = some 1 := by kernel_rfl
theorem gT : Tryz.prog.globalNamed "errors.errorType" = some 3 := by kernel_rfl
theorem gMType : (Tryz.prog.globals[(0 : Nat)]?).map (·.type) = some 228 := by kernel_rfl
theorem gSType : (Tryz.prog.globals[(1 : Nat)]?).map (·.type) = some 228 := by kernel_rfl
theorem cellsE : Tryz.prog.cellsOf 359 = 1 := by kernel_rfl
theorem cellsS : Tryz.prog.cellsOf 9 = 1 := by kernel_rfl
theorem star : "*" ++ "errors.errorString" = "*errors.errorString" := by decide
theorem rowE (u : TypeId) (h : Tryz.prog.typeName? 3 u = some "*errors.errorString") : u = 338 :=
  typeName_ptr_named (nm := "errors.errorString") (by rw [star]; kernel_rfl) (by kernel_rfl) (by decide) u (by rw [star]; exact h)
theorem rt : (Tryz.prog.cutTypes.find? (·.1 == "internal/reflectlite.rtype")).map (·.2) = some 323 := by kernel_rfl
theorem oneRow : ((List.range 371).filter fun t => Tryz.prog.rowNamed t [101, 114, 114, 111, 114]) = [228] := by kernel_rfl
theorem size : Tryz.prog.types.size = 371 := by kernel_rfl
theorem var_below {P : Program} {w w' : World} {n : String} {g B : Nat} {cs : Array Value} (h : w.var? P n = some cs) (hg : P.globalNamed n = some g) (hb : Below B w w') (hlt : g < B) : w'.var? P n = some cs := by
  unfold World.var? at h ⊢
  rw [hg] at h ⊢
  simp only [Option.bind_some] at h ⊢
  rw [hb.block g hlt]
  exact h

/-- What the listed variables give. -/
theorem glob {W : World} (h : laidMetH Tryz.prog Rows.fnExactInRow.laid W) : ∃ es em, Gl es em W ∧ W.var? Tryz.prog "loop.example/g00316/impl.errMore" = some #[.iface 338 (.pointer (some em))] ∧ W.var? Tryz.prog "loop.example/g00316/impl.errShort" = some #[.iface 338 (.pointer (some es))] := by
  have h' : laidMet Tryz.prog [("loop.example/g00316/impl.errShort", Rows.laid_loop_example_g00316_impl_errShort), ("loop.example/g00316/impl.errMore", Rows.laid_loop_example_g00316_impl_errMore)] W ∧ handlesMet Tryz.prog [("errors.errorType", Rows.laid_errors_errorType)] W := h
  obtain ⟨a0, a1, s0, s1, c0, c1, t0, t1, hv0, hv1, hc0, hs0, hz0, hc1, hs1, hz1, hne, hb0, hb1⟩ := laid_sentinels2 h'.1 gS gSType gM gMType Tryz.underlying228 rowE Tryz.underlying338 Tryz.underlying359 rfl rfl Tryz.underlying9 cellsE cellsS
  have ht : W.cell? ⟨3, 0, none⟩ = some (.iface 323 (.agg #[.pointer (some ⟨4, 228, none⟩)])) := by
    obtain ⟨name, u, ty, e1, e2, e3, e4, e5⟩ := h'.2 _ (List.mem_singleton.2 rfl)
    have en : name = [101, 114, 114, 111, 114] := (Option.some.inj e1).symm
    subst en
    obtain rfl := Option.some.inj (rt.symm.trans e2)
    have hm : ty ∈ (List.range 371).filter fun t => Tryz.prog.rowNamed t [101, 114, 114, 111, 114] := List.mem_filter.2 ⟨List.mem_range.2 (by rw [← size]; exact e3), e4⟩
    rw [oneRow] at hm
    obtain rfl := List.mem_singleton.1 hm
    have hh : typeHandle Tryz.prog 228 = .pointer (some ⟨4, 228, none⟩) := by kernel_rfl
    rw [hh] at e5
    simpa using World.var?_cell gT e5 0
  exact ⟨a0, a1, ⟨by simpa using World.var?_cell gS hv0 0, by simpa using World.var?_cell gM hv1 0, ht, hne, ⟨c0, t0, hb0⟩, ⟨c1, t1, hb1⟩⟩, hv1, hv0⟩

set_option maxRecDepth 100000 in
theorem contract (H : Type) (enc : TypeId × Value → H) (W : World) (base : Nat) (args : Array Value) (ds gs : List (DataW H)) (before : List MemPlace)
    (hval0 : ∀ (j : Nat) t v, Tryz.f4.params[j]? = some t → args[j]? = some v → Value.okWide Tryz.prog W .any base t v)
    (hW : DataW.Whole enc Tryz.prog Tryz.f4.params.toList Rows.fnExactInSpec.vars false W args.toList ds gs before) (hL : laidMetH Tryz.prog Rows.fnExactInRow.laid W) :
    Calls Tryz.prog 4 args W fun e W' => ∃ v, e = .returned v ∧ Rows.fnExactInSpec.post enc Tryz.prog Tryz.f4 false true false false W args v W' := by
  have hval := hval0
  have hW' := hW
  obtain ⟨p, q, hA0, hV0, rfl, hfz, hnd⟩ := hW
  have hA : DataW.TrodAll enc Tryz.prog W 0 (fun _ => true) true Tryz.f4.params.toList args.toList ds p := hA0
  have hV : DataW.TrodVars enc Tryz.prog W (fun _ => true) ["loop.example/g00316/impl.errMore", "loop.example/g00316/impl.errShort"] gs q := hV0
  rw [Tryz.params4] at hA hval
  obtain ⟨v0, vs0, d0, ds0, p0, q0, hargs, rfl, rfl, h0, r0⟩ := trodAll_cons hA
  obtain ⟨v1, vs1, d1, ds1, p1, q1, rfl, rfl, rfl, h1, r1⟩ := trodAll_cons r0
  obtain ⟨rfl, rfl, rfl⟩ := trodAll_nil r1
  obtain rfl : args = #[v0, v1] := by cases args; simp_all
  have k0 := h0
  have lt0 : ∀ x ∈ p0, x.block < W.heap.size := by obtain ⟨m, hm⟩ := k0; exact DataW.trod_lt m _ _ _ hm
  obtain ⟨l0, a0, rfl, hr0, hl0⟩ := gt_open (hval 0 36 v0 rfl rfl) h0
  obtain ⟨s, rfl, rfl, rfl, hs⟩ := open_string Tryz.underlying9 (hval 1 9 v1 rfl rfl) h1
  obtain ⟨es, em, G, hv0, hv1⟩ := glob hL
  have vr : ∀ {X : World}, X.var? Tryz.prog "loop.example/g00316/impl.errMore" = some #[.iface 338 (.pointer (some em))] → X.var? Tryz.prog "loop.example/g00316/impl.errShort" = some #[.iface 338 (.pointer (some es))] → ∀ sp : Nat → Bool,
      DataW.TrodVars enc Tryz.prog X sp ["loop.example/g00316/impl.errMore", "loop.example/g00316/impl.errShort"] [Go.RowKit.tok enc (.iface 338 (.pointer (some em))), Go.RowKit.tok enc (.iface 338 (.pointer (some es)))] [.cell 0 0, .cell 1 0] :=
    fun x0 x1 sp => vars_read2 enc gM gMType Tryz.underlying228 x0 trivial gS gSType Tryz.underlying228 x1 trivial sp
  obtain ⟨rfl, rfl⟩ := hV.unique (vr hv0 hv1 _)
  clear hA0 hV0 hval0
  have e1 : Rows.fnExactInSpec.fn H ([d0, .lit (.string s.data.toList)] ++ [Go.RowKit.tok enc (.iface 338 (.pointer (some em))), Go.RowKit.tok enc (.iface 338 (.pointer (some es)))]) = { results := [.lit (.bool true)], args := [d0, .lit (.string s.data.toList)], vars := [Go.RowKit.tok enc (.iface 338 (.pointer (some em))), Go.RowKit.tok enc (.iface 338 (.pointer (some es)))] } := rfl
  have lM := World.block_lt_of_cell? _ _ G.more
  have lS := World.block_lt_of_cell? _ _ G.short
  refine (fnExactIn_walk l0 a0 s W G hl0 hr0).mono fun e W' ⟨he, bel⟩ => ?_
  subst he
  refine ⟨_, rfl, _, _, _, [], (p0 ++ ([] ++ [])), [.cell 0 0, .cell 1 0], hW', ?_, ?_, ?_, bel.frame _, fun h => by cases h⟩
  · rw [e1]; exact trodAll_mk1 (shut_bool Tryz.underlying4 true)
  · rw [e1]; exact (trodAll_cons_mk (Below.trod laidOut (by kernel_rfl) (of_decide_eq_true (by kernel_rfl)) k0 bel lt0) (trodAll_cons_mk (shut_string Tryz.underlying9 hs) trodAll_mk0))
  · rw [e1]; exact vr (var_below hv0 gM bel lM) (var_below hv1 gS bel lS) _

abbrev shortS : ByteArray := { data := #[116, 104, 101, 32, 116, 101, 120, 116, 32, 101, 110, 100, 115, 32, 116, 111, 111, 32, 101, 97, 114, 108, 121] }
abbrev moreS : ByteArray := { data := #[116, 104, 101, 114, 101, 32, 97, 114, 101, 32, 98, 121, 116, 101, 115, 32, 98, 101, 104, 105, 110, 100, 32, 116, 104, 101, 32, 98, 111, 100, 121] }
noncomputable def low : Nat := (World.holding Tryz.prog default ⟨#[], #[], []⟩).heap.size
noncomputable def laidWorld (os : Os) : World :=
  let w0 := World.holding Tryz.prog os ⟨#[.cells #[.string shortS] 359, .cells #[.string moreS] 359], #[], []⟩
  { w0 with heap := ((w0.heap.modify 0 fun
      | .cells _ t frozen => .cells #[.iface 338 (.pointer (some ⟨low + 1, 0, none⟩))] t frozen
      | o => o).modify 1 fun
      | .cells _ t frozen => .cells #[.iface 338 (.pointer (some ⟨low, 0, none⟩))] t frozen
      | o => o).modify 3 fun
      | .cells _ t frozen => .cells #[.iface 323 (.agg #[.pointer (some ⟨4, 228, none⟩)])] t frozen
      | o => o }
theorem laid_met (os : Os) : laidMetH Tryz.prog Rows.fnExactInRow.laid ((laidWorld os).forCall (fun _ _ => 0) ⟨#[], #[.agg #[.int .i64 0, .int .i64 0, .int .i64 0, .slice none 0 0, .slice none 0 0, .slice none 0 0, .slice none 0 0, .int .i64 0, .slice none 0 0, .slice none 0 0, .int .i64 0, .slice none 0 0, .int .i64 0, .int .i64 0], .string ⟨#[]⟩], []⟩).memory :=
  laidMetH_of_parts (laidMet_of_run (ps := [.cell 1 0, .cell low 0, .cell 0 0, .cell (low + 1) 0]) 8 (by kernel_rfl) (by kernel_rfl) (by kernel_rfl)) (by kernel_rfl)
theorem reads (os : Os) {H : Type} (enc : TypeId × Value → H) : ∃ places, DataW.whole enc Tryz.prog ((laidWorld os).forCall (fun _ _ => 0) ⟨#[], #[.agg #[.int .i64 0, .int .i64 0, .int .i64 0, .slice none 0 0, .slice none 0 0, .slice none 0 0, .slice none 0 0, .int .i64 0, .slice none 0 0, .slice none 0 0, .int .i64 0, .slice none 0 0, .int .i64 0, .int .i64 0], .string ⟨#[]⟩], []⟩).memory Tryz.f4.params.toList Rows.fnExactInSpec.vars false (#[.agg #[.int .i64 0, .int .i64 0, .int .i64 0, .slice none 0 0, .slice none 0 0, .slice none 0 0, .slice none 0 0, .int .i64 0, .slice none 0 0, .slice none 0 0, .int .i64 0, .slice none 0 0, .int .i64 0, .int .i64 0], .string ⟨#[]⟩] : Array Value).toList 8 = some ([.agg [.agg [.lit (.int .i64 0), .lit (.int .i64 0), .lit (.int .i64 0)], .nil, .nil, .nil, .nil, .agg [.lit (.int .i64 0), .nil], .nil, .agg [.lit (.int .i64 0), .nil], .lit (.int .i64 0), .lit (.int .i64 0)], .lit (.string [])], [Go.RowKit.tok enc (.iface 338 (.pointer (some ⟨low + 1, 0, none⟩))), Go.RowKit.tok enc (.iface 338 (.pointer (some ⟨low, 0, none⟩)))], places) :=
  ⟨[.cell 0 0, .cell 1 0], by kernel_rfl⟩

set_option maxRecDepth 100000 in
theorem lifted (os : Os) (started : os.Started) (H : Type) (enc : TypeId × Value → H) (F : Stop.Interp) :
    ReturnsInHanded {} Tryz.checked os 4 .any ((OpenSpec.ofChange Rows.fnExactInSpec).preRow enc Tryz.prog Tryz.f4 Rows.fnExactInRow.domain false Rows.fnExactInRow.laid) (((OpenSpec.ofChange Rows.fnExactInSpec).at F).post enc Tryz.prog Tryz.f4 false true false false) := by
  obtain ⟨places, hx⟩ := reads os enc
  refine returnsInHanded_of_row (C := Tryz.checked) (s := OpenSpec.ofChange Rows.fnExactInSpec) own started (by kernel_rfl) Tryz.func4
    (witness_row_at (enc := enc) (C := Tryz.checked) false (laidWorld os) #[.agg #[.int .i64 0, .int .i64 0, .int .i64 0, .slice none 0 0, .slice none 0 0, .slice none 0 0, .slice none 0 0, .int .i64 0, .slice none 0 0, .slice none 0 0, .int .i64 0, .slice none 0 0, .int .i64 0, .int .i64 0], .string ⟨#[]⟩] rfl (by kernel_rfl) (by kernel_rfl) (by kernel_rfl)
      (OpenSpec.preRow_of_cond 8 hx (by kernel_rfl) (fun k hk => by cases hk) (by kernel_rfl) (laid_met os))) ?_
  intro W base args ds gs before hval hW _ _ _ hL _ _
  exact contract H enc W base args ds gs before hval hW hL

set_option maxHeartbeats 12800000 in
theorem closed : joinedFacts Tryz.pinned.checked.prog 4 Tryz.f4 (OpenSpec.ofChange Rows.fnExactInSpec).bare Rows.fnExactInRow = true := by
  simp only [joinedFacts, Bool.and_eq_true]
  repeat' apply And.intro
  all_goals as_aux_lemma => kernel_rfl

theorem said : Rows.FnExactInSaid :=
  OpenClaim.holds_of_cond 4 Tryz.f4 rfl rfl rfl rfl rfl rfl rfl ⟨rfl, rfl, rfl, rfl, rfl⟩ rfl rfl rfl rfl rfl (by kernel_rfl) Tryz.func4 closed
    (of_decide_eq_true (by kernel_rfl)) (by unfold Func.isWrapper; first | (rw [if_pos (by decide +kernel)]; kernel_rfl) | (rw [if_neg (by decide +kernel)]; exact ⟨rfl, rfl⟩))
    (fun os started H enc _ F => by rw [OpenClaim.pre_eq_preRow]; exact lifted os started H enc F)

theorem plain (f : FuncId) (fn : Func) (hf : Tryz.pinned.checked.prog.funcNamed "loop.example/g00316/laws.FnExactIn" = some f) (hfn : Tryz.pinned.checked.prog.funcs[f]? = some fn) :
    true = Tryz.pinned.checked.prog.looks [] ∧ ∀ (j : Nat) t, fn.params[j]? = some t → Tryz.pinned.checked.prog.wantsStandIn t = false := by
  obtain rfl : f = 4 := Option.some.inj ((show Tryz.prog.funcNamed "loop.example/g00316/laws.FnExactIn" = some 4 by kernel_rfl).symm.trans hf) |>.symm
  obtain rfl : fn = Tryz.f4 := (Option.some.inj (Tryz.func4.symm.trans hfn)).symm
  refine ⟨by kernel_rfl, fun j t ht => ?_⟩
  rw [Tryz.params4] at ht
  have hm := Array.mem_of_getElem? ht
  simp only [List.mem_toArray, List.mem_cons, List.not_mem_nil, or_false] at hm
  rcases hm with rfl | rfl
  · exact (show Tryz.prog.wantsStandIn 36 = false by kernel_rfl)
  · exact (show Tryz.prog.wantsStandIn 9 = false by kernel_rfl)

theorem card : Rows.FnExactInCardSaid :=
  Claim7.holds_tied_plain_at .later [] _ _ _ _ said (fun _ h => by cases h) (by kernel_rfl) (fun _ h => by cases h) fnExactIn_row_tie rfl ⟨rfl, rfl⟩ (by kernel_rfl) rfl plain (by kernel_rfl)
end Go.Proofs.YtgebghkcikmfaaaGreatDoor.fnExactIn

namespace Go.Proofs.YtgebghkcikmfaaaGreatDoor
theorem fnExactIn_holds : Rows.FnExactInCardSaid := fnExactIn.card
#print axioms fnExactIn_holds
end Go.Proofs.YtgebghkcikmfaaaGreatDoor

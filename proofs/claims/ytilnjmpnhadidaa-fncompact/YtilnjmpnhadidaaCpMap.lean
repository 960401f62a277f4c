/-
  A map whose keys are places, told by what it holds at each. By the verifier.
-/
import Derived.Test.YtilnjmpnhadidaaCpLeaf
import Derived.Maps.OwnSet
import Derived.DeepKeys4
namespace Go.Proofs.Ytilnjmpnhadidaa
open Go.RowKit Go.Maps Go.WideMaps

theorem laidAll : laidOutB Try.prog = true := by kernel_rfl
theorem placeKey : Keyed Try.prog 67 :=
  Keyed.of_law (deep_law_laid laidAll (m := 2) (by omega) (of_decide_eq_true (by kernel_rfl)) (by kernel_rfl) (by rw [Try.underlying67]))
theorem wf_of {x : Int} (h0 : -9223372036854775808 ≤ x) (h1 : x ≤ 9223372036854775807) : (Lit.int .i64 x).wf = true := WalkArith.wf_i64 (by omega)
theorem key_of {x y : Int} (wx : (Lit.int .i64 x).wf = true) (wy : (Lit.int .i64 y).wf = true) : ∃ kl, keyOf Try.prog 67 (pv x y) = some kl := by
  refine ⟨.string (keyBytes [.int .i64 x, .int .i64 y]), ?_⟩
  have hkt : Try.prog.keyType 67 = true := by kernel_rfl
  obtain ⟨m, hm⟩ : ∃ m, Try.prog.types.size = m + 1 := ⟨Try.prog.types.size - 1, by have : 0 < Try.prog.types.size := of_decide_eq_true (by kernel_rfl); omega⟩
  have hc : Try.prog.cellsOf 67 = 2 := by kernel_rfl
  have hc2 : Try.prog.cellsOf 2 = 1 := by kernel_rfl
  unfold keyOf pv
  simp only [Try.underlying67]
  rw [if_pos (by simp [hkt, Value.formed, Try.underlying67, hc]), hm]
  unfold Program.keyLits
  simp only [Try.underlying67, Value.cells]
  rw [if_pos (by rw [hc]; exact ⟨rfl, by simp⟩)]
  simp [hc2, Program.keyLits, Try.underlying2, wx, wy]

/-- Block b is a map of at most n entries that holds g. -/
def HMap (w : World) (b n : Nat) (g : Int → Int → Option Int) : Prop :=
  ∃ D : DataW Unit, w.ownsMap Try.prog 67 (plainElem Try.prog 2) b n D ∧ ∀ x y kl, keyOf Try.prog 67 (pv x y) = some kl → has D kl = (g x y).isSome ∧ ∀ h, g x y = some h → D.atKey kl (.lit (.int .i64 0)) = .lit (.int .i64 h)
theorem HMap.lt {w : World} {b n : Nat} {g : Int → Int → Option Int} (h : HMap w b n g) : b < w.heap.size := by
  obtain ⟨D, o, _⟩ := h
  exact o.lt
theorem HMap.kept {w w' : World} {b n : Nat} {g : Int → Int → Option Int} (h : HMap w b n g) (hb : w'.heap[b]? = w.heap[b]?) : HMap w' b n g := by
  obtain ⟨D, ⟨es, clock, h1, h2⟩, hg⟩ := h
  exact ⟨D, ⟨es, clock, hb.trans h1, h2⟩, hg⟩
theorem HMap.made (w : World) : HMap (w.alloc (.map #[] 0)) w.heap.size 0 fun _ _ => none :=
  ⟨_, World.ownsMap_made w _ _ _, fun x y kl _ => ⟨rfl, fun h e => by cases e⟩⟩
theorem HMap.same {w : World} {b n : Nat} {g g' : Int → Int → Option Int} (h : HMap w b n g) (e : ∀ x y, g x y = g' x y) : HMap w b n g' := by
  have : g = g' := funext fun x => funext fun y => e x y
  rw [← this]; exact h
theorem HMap.look {w : World} {b n : Nat} {g : Int → Int → Option Int} (h : HMap w b n g) {x y : Int} (wx : (Lit.int .i64 x).wf = true) (wy : (Lit.int .i64 y).wf = true) :
    ∃ v, (Instr.lookup 40 (.map (some b)) (pv x y) true).run Try.prog w = .ok (.tuple #[.int .i64 v, .bool (g x y).isSome]) w ∧ ∀ z, g x y = some z → v = z := by
  obtain ⟨D, o, hg⟩ := h
  obtain ⟨kl, hk⟩ := key_of wx wy
  obtain ⟨h1, h2⟩ := hg x y kl hk
  obtain ⟨v, ps, hrun, hv⟩ := o.look_ok placeKey Try.underlying40 (Try.zeroValue2 w) (plainElem_int (H := Unit) Try.underlying2 (by decide)) hk
  obtain ⟨c, rfl, hc, hwc⟩ := plainElem_int_inv Try.underlying2 hv
  simp only [Prod.mk.injEq] at hc
  refine ⟨c, by rw [← h1]; exact hrun, fun z hz => ?_⟩
  have e := (h2 z hz).symm.trans hc.1
  simp only [DataW.lit.injEq, Lit.int.injEq, true_and] at e
  exact e.symm
theorem HMap.store {w : World} {b n : Nat} {g : Int → Int → Option Int} (h : HMap w b n g) (hn : n < maxLen) {x y z : Int} (wx : (Lit.int .i64 x).wf = true) (wy : (Lit.int .i64 y).wf = true) (wz : (Lit.int .i64 z).wf = true) :
    ∃ w', (Instr.mapUpdate 40 (.map (some b)) (pv x y) (.int .i64 z)).run Try.prog w = .ok () w' ∧ HMap w' b (n + 1) (fun p q => if p = x ∧ q = y then some z else g p q) ∧ w.grownBy w' (some b) := by
  obtain ⟨D, o, hg⟩ := h
  obtain ⟨kl, hk⟩ := key_of wx wy
  obtain ⟨w', hrun, o', gr⟩ := o.update placeKey Try.underlying40 hn hk (plainElem_int (H := Unit) Try.underlying2 wz)
  refine ⟨w', hrun, ⟨_, o', fun p q k2 hk2 => ?_⟩, gr⟩
  have hkl : WideAt.IsKeyLit kl := placeKey.key hk
  by_cases e : p = x ∧ q = y
  · obtain ⟨rfl, rfl⟩ := e
    rw [hk] at hk2
    cases hk2
    simp only [and_self, if_true]
    refine ⟨has_put_same o.isMap hkl _, fun h' e => ?_⟩
    cases e
    exact atKey_put_same o.isMap hkl _ _
  · simp only [if_neg e]
    have hne : k2 ≠ kl := by
      intro e2
      subst e2
      have := placeKey.inj hk2 hk
      unfold pv at this
      simp only [Value.agg.injEq] at this
      have h3 := congrArg Array.toList this
      simp at h3
      exact e h3
    rw [has_put_other hne, atKey_put_other hne]
    exact hg p q k2 hk2
theorem HMap.wipe {w : World} {b n : Nat} {g : Int → Int → Option Int} (h : HMap w b n g) :
    ∃ w', (∀ ty, (Builtin.clear_ #[40] ty #[.map (some b)]).run Try.prog w = .ok (.tuple #[]) w') ∧ HMap w' b 0 (fun _ _ => none) ∧ w.grownBy w' (some b) := by
  obtain ⟨D, ⟨es, clock, h1, F, _⟩, _⟩ := h
  refine ⟨ChangeMaps.setBlock w b (.map #[] clock), ?_, ⟨.map [], ⟨#[], clock, ChangeMaps.heap_setBlock_same h1 _, ⟨by simp, ?_, by simp⟩, Nat.le_refl _, rfl⟩, fun x y kl _ => ⟨rfl, fun h e => by cases e⟩⟩, ⟨rfl, rfl, rfl, by simp [ChangeMaps.setBlock], fun i _ hi => ChangeMaps.heap_setBlock_other h1 _ (fun e => hi (by rw [e]))⟩⟩
  · intro ty
    simp [Builtin.clear_, run_underlying Try.underlying40, MapKept.run_getObj_map h1, MapKept.run_setObj_map _ h1, Result.andThen, ChangeMaps.setBlock]
  · exact MapKept.stamped_empty _
end Go.Proofs.Ytilnjmpnhadidaa

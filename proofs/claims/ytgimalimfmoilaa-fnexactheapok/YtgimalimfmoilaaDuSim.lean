/-
  slices.SortFunc on dues with the method expression: in order behind it, and the same dues. By the verifier.
-/
import Derived.Test.YtgimalimfmoilaaSimEnd
import Derived.Test.YtgimalimfmoilaaDuCmp
import Derived.Test.YtgimalimfmoilaaSortLay
namespace Go.Proofs.Ytgimalimfmoilaa
open Go.RowKit Go.Shelf

/-- The functions that a sort runs, each with the slots that hold its order. -/
def sortT : FuncId → Option (List Tmp) := fun g => List.lookup g [(67, [1, 12]), (81, []), (82, [4, 29, 36, 43, 51, 60, 79, 84, 102, 110, 133, 145]), (83, []), (89, []), (90, []), (91, [3, 22]), (92, [3, 28, 58]), (93, [3]), (94, [3, 39, 43, 47, 53]), (95, [3]), (96, [3, 23, 72, 112]), (97, [4, 35, 54]), (98, [4, 36, 54, 109, 127]), (99, []), (100, []), (101, []), (102, []), (103, [4, 24, 43]), (104, []), (105, []), (106, [3, 16]), (107, [5, 18, 27, 36]), (108, [4, 12])]
theorem okTab_yes : ([67, 81, 82, 83, 89, 90, 91, 92, 93, 94, 95, 96, 97, 98, 99, 100, 101, 102, 103, 104, 105, 106, 107, 108].all fun g => (sortT g).all (okFn Try.prog sortT g)) = true := by kernel_rfl
theorem sortT_in {g : FuncId} {G : List Tmp} (h : sortT g = some G) : g ∈ [67, 81, 82, 83, 89, 90, 91, 92, 93, 94, 95, 96, 97, 98, 99, 100, 101, 102, 103, 104, 105, 106, 107, 108] := by
  unfold sortT at h
  simp only [List.lookup] at h
  repeat' (split at h)
  all_goals first | (cases h; done) | (simp_all; done)
theorem noReady : (Try.prog.funcs.all fun f => (f.body.map readies).all (·.isEmpty)) = true := by kernel_rfl
theorem noStep (g : Nat) : Try.prog.stepOf g = none := by
  unfold Program.stepOf
  rw [Array.findIdx?_eq_none_iff]
  intro f hf
  have h := Array.all_eq_true_iff_forall_mem.1 noReady f hf
  cases hb : f.body with
  | none => simp
  | some c =>
    rw [hb] at h
    have : readies c = [] := by simpa using h
    simp [this]
theorem sortSim : SimOk Try.prog sortT (.func (.func 81) #[] #[]) (.func (.methodOf 33 "loop.example/g00316/impl.order") #[] #[]) 81 where
  fns g G h := by
    have := List.all_eq_true.1 okTab_yes g (sortT_in h)
    rw [h] at this
    simpa using this
  one := by kernel_rfl
  e1 args w h := by
    have he : Enters Try.prog 81 := enters_of Try.func81 (by kernel_rfl) rfl
    rw [Sem.run_bind]
    simp only [Deferred.ofValue, Sem.run_pure, Result.andThen_ok, invoke]
    have := he args w
    simp only [Array.empty_append, Array.append_empty]
    exact this
  e2 args w h := by
    obtain ⟨x, y, rfl⟩ : ∃ x y, args = #[x, y] := by
      obtain ⟨l⟩ := args
      match l, h with
      | [x, y], _ => exact ⟨x, y, rfl⟩
    have he : Enters Try.prog 81 := enters_of Try.func81 (by kernel_rfl) rfl
    have hm := orderMeth x w
    have := he #[x, y] w
    simp [Deferred.ofValue, invoke, callMethod, run_underlying Try.underlying33]
    show ((Sem.run Try.prog (Go.method 254 33 x "loop.example/g00316/impl.order") w).andThen _) = _
    rw [hm]
    simp only [Result.andThen_ok]
    exact this
  n1 b h := by cases h
  n2 b h := by cases h
  early := noStep
end Go.Proofs.Ytgimalimfmoilaa

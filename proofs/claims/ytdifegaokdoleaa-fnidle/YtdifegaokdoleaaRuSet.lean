/-
  The program's set of numbers: what it holds, and told rising. By the verifier.
-/
import Derived.Test.YtdifegaokdoleaaSetLay
import Derived.Test.YtdifegaokdoleaaIntRow
import Derived.Maps.OwnSet
namespace Go.Proofs.Ytdifegaokdoleaa
open Go.RowKit Go.Maps Go.Sort Go.Shelf

theorem setSorts (m : Nat) : AnyZI.SortsIn Try.prog Try.sortedA_ren Fence.wide m :=
  ⟨fun blk off cap ss W hH hblk hsz => callsIn_wide.2 (AnyM.slices_Sort_int Try.sortA blk off cap ss W hH hblk hsz),
   fun p cap W => callsIn_wide.2 (AnyM.slices_Sort_int_none Try.sortA p cap W)⟩

set_option maxHeartbeats 1000000 in
theorem implRising0 {H : Type} (b nn : Nat) (D0 : DataW H) (R : Value → Option (DataW H × List MemPlace)) (w : World) (hown : w.ownsMap Try.prog 2 R b nn D0) (hmax : Maps.size D0 ≤ maxLen) (hbytes : Maps.size D0 * 8 ≤ 140737488355328) :
    Calls Try.prog 46 #[.map (some b)] w fun e w' => ∃ (v : Value) (ss : List Int), e = .returned v ∧ ss.Perm (intKeys D0) ∧
      w'.ownsRow w.heap.size 2 1 v ss.length ((ss.mergeSort (fun x y => decide (x ≤ y))).map encZ) ∧ (v = .slice none 0 0 ↔ ss = []) ∧ Below w.heap.size w w' := by
  refine (callsIn_wide (n := 6)).1 ?_
  have hbl := hown.lt
  have hseq : SeqGives Fence.wide 2 Try.prog 81 #[.pointer (some ⟨w.heap.size, 0, none⟩)] encZ (fun ss => ss.Perm (intKeys D0)) (Maps.size D0) (w.alloc (.cells #[.map (some b)] 60)) :=
    AnyZI.keys_gives (ρ := Try.keysA_ren) { Try.keysA with } Fence.wide _ trivial rfl (by omega) w.heap.size b nn D0 _ (by simp) (by simp) (by
      obtain ⟨es, clock, hb, Ft, hs, hD⟩ := hown
      exact ⟨es, clock, (Below.heap_alloc _ _ b hbl).trans hb, Ft, hs, hD⟩)
  have cK : ∀ mb W, CallsIn Fence.wide 5 Try.prog 71 #[.map mb] W fun e w' => e = .returned (.func (.func 81) #[] #[.pointer (some ⟨W.heap.size, 0, none⟩)]) ∧ w' = W.alloc (.cells #[.map mb] 60) := fun mb W => AnyZI.keys_in Try.keysA Fence.wide 5 trivial rfl mb W
  have cS := AnyZI.sorted_in Try.sortedA Fence.wide 5 trivial trivial trivial trivial rfl (by omega) (setSorts _) (enters_of Try.func80 (by kernel_rfl) rfl) 81 #[.pointer (some ⟨w.heap.size, 0, none⟩)] trivial (enters_of Try.func81 (by kernel_rfl) rfl) _ _ hmax hbytes _ hseq
  change CallsIn _ _ Try.prog 70 _ _ _ at cS
  have hfK : Fence.wide.fn 71 := trivial
  have hfS : Fence.wide.fn 70 := trivial
  refine callsIn_of_wp Try.func46 rfl trivial ?_ rfl
  simp only [Try.ntmps46, List.size_toArray, List.length_cons, List.length_nil, Nat.reduceAdd, Nat.reduceSub, Array.replicate_succ, Array.replicate_zero, List.push_toArray, List.append_toArray, List.nil_append, List.cons_append]
  gi_wp2_with (first
    | (gi_at_call 71; refine (cK _ _).mono ?_; rintro e w' ⟨rfl, rfl⟩)
    | (gi_at_call 70; refine cS.mono ?_; rintro e w' ⟨v, ss, rfl, hS, hrow, hnil, hb⟩))
  go_ret
  exact ⟨v, ss, rfl, hS, ownsRow_base_a hrow (by simp), hnil, ((Below.refl _ w).alloc (Nat.le_refl _) _).trans (hb.mono (by simp))⟩

/-- What an entry of the set reads as: it holds nothing. -/
def noElem (_ : Value) : Option (DataW Unit × List MemPlace) := some (.lit (.bool true), [])
/-- Block b is a set of at most n that holds just these. -/
def ISet (w : World) (b n : Nat) (S : Int → Bool) : Prop :=
  ∃ D : DataW Unit, w.ownsMap Try.prog 2 noElem b n D ∧ ∀ x, has D (.int .i64 x) = S x
theorem ISet.lt {w : World} {b n : Nat} {S : Int → Bool} (h : ISet w b n S) : b < w.heap.size := by
  obtain ⟨D, o, _⟩ := h
  exact o.lt
theorem ISet.kept {w w' : World} {b n : Nat} {S : Int → Bool} (h : ISet w b n S) (hb : w'.heap[b]? = w.heap[b]?) : ISet w' b n S := by
  obtain ⟨D, ⟨es, clock, h1, h2⟩, hg⟩ := h
  exact ⟨D, ⟨es, clock, hb.trans h1, h2⟩, hg⟩
theorem ISet.made (w : World) : ISet (w.alloc (.map #[] 0)) w.heap.size 0 fun _ => false :=
  ⟨_, World.ownsMap_made w _ _ _, fun _ => rfl⟩
theorem ISet.store {w : World} {b n : Nat} {S : Int → Bool} (h : ISet w b n S) (hn : n < maxLen) {x : Int} (wx : (Lit.int .i64 x).wf = true) (v : Value) :
    ∃ w', (Instr.mapUpdate 60 (.map (some b)) (.int .i64 x) v).run Try.prog w = .ok () w' ∧ ISet w' b (n + 1) (fun y => decide (y = x) || S y) ∧ w.grownBy w' (some b) := by
  obtain ⟨D, o, hg⟩ := h
  have hk : keyOf Try.prog 2 (.int .i64 x) = some (.int .i64 x) := keyOf_int_mk Try.underlying2 wx
  obtain ⟨w', hrun, o', gr⟩ := o.update (int_keyed Try.underlying2) Try.underlying60 hn hk (val := v) (d := .lit (.bool true)) (ps := []) rfl
  refine ⟨w', hrun, ⟨_, o', fun y => ?_⟩, gr⟩
  by_cases e : y = x
  · subst e
    rw [has_put_same o.isMap ((int_keyed Try.underlying2).key hk)]
    simp
  · rw [has_put_other (by intro e2; exact e (by simpa using e2)), hg y]
    show S y = (decide (y = x) || S y)
    rw [decide_eq_false e]
    rfl
theorem implAdd (b n : Nat) (S : Int → Bool) (x : Int) (w : World) (hn : n < 1000) (wx : (Lit.int .i64 x).wf = true) (h : Hid (ISet w b n S)) :
    Calls Try.prog 45 #[.map (some b), .int .i64 x] w fun e w' => e = .returned (.tuple #[]) ∧ ISet w' b (n + 1) (fun y => decide (y = x) || S y) ∧ w.grownBy w' (some b) := by
  obtain ⟨w1, hrun, h1, g1⟩ := h.out.store (by unfold maxLen; omega) wx (.agg #[])
  have H1 : Hid (ISet w1 b (n + 1) (fun y => decide (y = x) || S y) ∧ w.grownBy w1 (some b)) := ⟨h1, g1⟩
  clear h1 g1
  go_enter Try.func45, Try.ntmps45
  go_wp2
  refine bodyPost_end (v := .tuple #[]) ?_ rfl ?_
  · simp [results, Try.results45, go_sem]
  · exact ⟨rfl, H1.out⟩

/-- Rising, each once. -/
theorem sorted_is {ss ys : List Int} (hp : ys.Pairwise (· < ·)) (hn : ss.Nodup) (hm : ∀ x, x ∈ ss ↔ x ∈ ys) : ss.mergeSort (fun x y => decide (x ≤ y)) = ys := by
  have tr : ∀ a b c : Int, decide (a ≤ b) = true → decide (b ≤ c) = true → decide (a ≤ c) = true := fun a b c h1 h2 => by simp only [decide_eq_true_eq] at *; omega
  have ttl : ∀ a b : Int, (decide (a ≤ b) || decide (b ≤ a)) = true := fun a b => by simp only [Bool.or_eq_true, decide_eq_true_eq]; omega
  have hny : ys.Nodup := hp.imp (fun h => by omega)
  have hperm : ss.Perm ys := (List.perm_ext_iff_of_nodup hn hny).2 hm
  refine List.Perm.eq_of_pairwise (le := fun a b => decide (a ≤ b) = true) (fun a b _ _ h1 h2 => ?_) (List.pairwise_mergeSort tr ttl ss) (hp.imp (fun h => by simp; omega)) ((List.mergeSort_perm ss _).trans hperm)
  simp only [decide_eq_true_eq] at h1 h2
  omega
theorem implRising (b n : Nat) (S : Int → Bool) (ys : List Int) (w : World) (hn : n ≤ 1000) (h : ISet w b n S) (hp : ys.Pairwise (· < ·)) (hm : ∀ x, S x = true ↔ x ∈ ys) :
    Calls Try.prog 46 #[.map (some b)] w fun e w' => (∃ v, e = .returned v ∧ IRow w.heap.size w' v ys) ∧ Below w.heap.size w w' := by
  obtain ⟨D, o, hg⟩ := h
  have hs := o.size_le
  refine (implRising0 b n D noElem w o (by unfold maxLen; omega) (by omega)).mono ?_
  rintro e w' ⟨v, ss, rfl, hS, hrow, _, hb⟩
  obtain ⟨es, hD, hpw⟩ := o.tidy (int_keyed Try.underlying2)
  obtain ⟨es', hD', hko⟩ := o.keysOf
  obtain rfl : es = es' := by rw [hD] at hD'; simpa using hD'
  have hint : ∀ p ∈ es, ∃ x, p.1 = .int .i64 x := fun p hp => by
    obtain ⟨v, hv⟩ := hko p hp
    obtain ⟨x, _, hx, _⟩ := Maps.keyOf_i64 Try.underlying2 hv
    exact ⟨x, hx⟩
  have hnd : (intKeys D).Nodup := by
    rw [hD]
    show (es.map fun p => Go.intOf p.1).Nodup
    refine List.pairwise_map.2 (hpw.imp_of_mem fun {p q} hp' hq' hne e => hne ?_)
    obtain ⟨a, ha⟩ := hint p hp'
    obtain ⟨b, hb⟩ := hint q hq'
    rw [ha, hb] at e ⊢
    exact congrArg _ e
  have hmem : ∀ x, x ∈ intKeys D ↔ has D (.int .i64 x) = true := by
    intro x
    rw [hD, has_eq, List.any_eq_true]
    show x ∈ es.map (fun p => Go.intOf p.1) ↔ _
    rw [List.mem_map]
    constructor
    · rintro ⟨p, hp', rfl⟩
      obtain ⟨a, ha⟩ := hint p hp'
      exact ⟨p, hp', by rw [ha]; simp [Lit.sameKey, Go.intOf]⟩
    · rintro ⟨p, hp', hs⟩
      obtain ⟨a, ha⟩ := hint p hp'
      rw [ha] at hs
      exact ⟨p, hp', by rw [ha]; simpa [Lit.sameKey, Go.intOf] using hs⟩
  have e1 := sorted_is hp (hS.nodup_iff.2 hnd) (fun x => by rw [hS.mem_iff, hmem, hg, hm])
  have hl : ss.length = ys.length := by rw [← e1, List.length_mergeSort]
  refine ⟨⟨v, rfl, ?_⟩, hb⟩
  unfold IRow
  rw [hl, e1] at hrow
  exact hrow
end Go.Proofs.Ytdifegaokdoleaa

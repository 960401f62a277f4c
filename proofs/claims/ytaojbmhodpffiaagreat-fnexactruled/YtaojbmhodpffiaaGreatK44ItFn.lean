/-
  The walks of slices.IndexFunc and slices.ContainsFunc on items, for whatever function tells yes or no. By the verifier.
-/
import Derived.Test.YtaojbmhodpffiaaGreatK5RwPlain
import Derived.Test.YtaojbmhodpffiaaGreatK2NumIn
import Derived.WalkKit
import Derived.WalkSpells
import Derived.WalkLawsBesides
import Derived.Test.YtaojbmhodpffiaaGreatK10Quiet
import Derived.Shelf.Abstract
namespace Go.Proofs.YtaojbmhodpffiaaGreat
open Go.RowKit Go.Shelf

/-- A function that tells yes or no of an item, as long as what it looks at lies as it lay. -/
structure ItTells (W0 : World) (D : Nat → Prop) (g : FuncId) (fs cb : Array Value) (Q : It → Prop) (p : It → Bool) : Prop where
  enters : Enters Tryz.prog g
  under : ∀ k, D k → k < W0.heap.size
  tells : ∀ (W : World) (r : It), Q r → (∀ k, D k → W.heap[k]? = W0.heap[k]?) → Calls Tryz.prog g (fs ++ #[r.val] ++ cb) W fun e w' => e = .returned (.bool (p r)) ∧ Below W.heap.size W w'
theorem ItTells.more {W0 W1 : World} {D : Nat → Prop} {g : FuncId} {fs cb : Array Value} {Q : It → Prop} {p : It → Bool} (h : ItTells W0 D g fs cb Q p) (hs : W0.heap.size ≤ W1.heap.size) (hb : ∀ k, D k → W1.heap[k]? = W0.heap[k]?) : ItTells W1 D g fs cb Q p :=
  ⟨h.enters, fun k hk => Nat.lt_of_lt_of_le (h.under k hk) hs, fun W r hq hW => h.tells W r hq fun k hk => (hW k hk).trans (hb k hk)⟩

set_option maxHeartbeats 1600000 in
set_option maxRecDepth 100000 in
theorem implIndexT (a : Option Addr) (cap : Nat) (l : List It) (g : FuncId) (fs cb : Array Value) (D : Nat → Prop) (Q : It → Prop) (p : It → Bool) (w : World) (hT : l.length ≤ 1048576) (h : Hid (ItsAt w a l)) (hq : Hid (∀ r ∈ l, Q r)) (ht : Hid (ItTells w D g fs cb Q p)) :
    Calls Tryz.prog 153 #[.slice a l.length cap, .func (.func g) fs cb] w fun e w' => e = .returned (.int .i64 (if l.findIdx p < l.length then (l.findIdx p : Int) else -1)) ∧ Below w.heap.size w w' := by
  have eg : ∀ args w, (callFunc g args).run Tryz.prog w = .ok (.enter g args) w := ht.out.enters
  obtain ⟨len, hlen⟩ : ∃ n, l.length = n := ⟨_, rfl⟩
  have Hlen : Hid (l.length = len) := hlen
  obtain ⟨N, hN⟩ : ∃ N, l.findIdx p = N := ⟨_, rfl⟩
  have HN : Hid (l.findIdx p = N) := hN
  have hNl : N ≤ len := by rw [← hN, ← hlen]; exact List.findIdx_le_length
  rw [hlen] at hT ⊢
  rw [hN]
  clear hlen hN
  go_enter Tryz.func153, Tryz.ntmps153
  go_wp2
  go_loopw [8] (fun i wr => ∃ k : Nat, k ≤ N ∧ i = .int .i64 k ∧ Hid (Below w.heap.size w wr)) (fun i _ => len - (intOf i).toNat)
  case atStart => exact ⟨0, Nat.zero_le _, rfl, Below.refl _ _⟩
  case round =>
    obtain ⟨k, hk, rfl, H1⟩ := hrel
    by_cases hlt : k < len
    · have R : Hid (ItsAt wr a l) := h.out.below H1.out
      obtain ⟨b1, o1, ha1, hb1, -⟩ := R.out k (by rw [Hlen.out]; exact hlt)
      subst ha1
      obtain ⟨c0, c1, c2⟩ := R.out.cells (k := k) (by rw [Hlen.out]; exact hlt)
      have hmem : itAt l k ∈ l := by rw [itAt_lt (by rw [Hlen.out]; exact hlt)]; exact List.getElem_mem _
      have HC := ht.out.tells wr (itAt l k) (hq.out _ hmem) fun j hj => H1.out.block j (ht.out.under j hj)
      unfold It.val at HC
      have hlt' : (k : Int) < (len : Int) := by omega
      by_cases hkN : k = N
      · have hp : p (itAt l k) = true := by
          rw [itAt_lt (by rw [Hlen.out]; exact hlt)]
          have := List.findIdx_getElem (p := p) (xs := l) (w := by rw [HN.out, Hlen.out, ← hkN]; exact hlt)
          simpa only [HN.out, ← hkN] using this
        rw [hp] at HC
        clear hmem hp R
        generalize itAt l k = r at c0 c1 c2 HC
        subst hkN
        go_wp2_with fail
        refine HC.mono ?_
        rintro e w' ⟨rfl, hb'⟩
        have B2 : Hid (Below w.heap.size w w') := H1.out.trans (hb'.mono H1.out.size)
        clear hb' H1 HC c0 c1 c2
        go_wp2
        go_ret
        exact ⟨by first | rfl | (rw [if_pos hlt]; rfl), B2.out⟩
      · have hp : p (itAt l k) = false := by
          rw [itAt_lt (by rw [Hlen.out]; exact hlt)]
          have := List.not_of_lt_findIdx (p := p) (xs := l) (i := k) (by rw [HN.out]; omega)
          simpa using this
        rw [hp] at HC
        clear hmem hp R
        generalize itAt l k = r at c0 c1 c2 HC
        go_wp2_with fail
        refine HC.mono ?_
        rintro e w' ⟨rfl, hb'⟩
        have B2 : Hid (Below w.heap.size w w') := H1.out.trans (hb'.mono H1.out.size)
        clear hb' H1 HC c0 c1 c2
        go_wp2
        go_roundw
        case rel => exact ⟨k + 1, by omega, by go_num, B2⟩
        case measure => simp [intOf]; omega
    · obtain rfl : k = len := by omega
      obtain rfl : k = N := by omega
      go_wp2
      go_ret
      exact ⟨by first | rfl | (rw [if_neg (Nat.lt_irrefl _)]; rfl), H1.out⟩

theorem any_idxT {α : Type} (l : List α) (p : α → Bool) : decide (l.findIdx p < l.length) = l.any p := by
  rw [Bool.eq_iff_iff, decide_eq_true_iff, List.findIdx_lt_length, List.any_eq_true]

set_option maxHeartbeats 1600000 in
theorem implContainsT (a : Option Addr) (cap : Nat) (l : List It) (g : FuncId) (fs cb : Array Value) (D : Nat → Prop) (Q : It → Prop) (p : It → Bool) (w : World) (hT : l.length ≤ 1048576) (h : Hid (ItsAt w a l)) (hq : Hid (∀ r ∈ l, Q r)) (ht : Hid (ItTells w D g fs cb Q p)) :
    Calls Tryz.prog 109 #[.slice a l.length cap, .func (.func g) fs cb] w fun e w' => e = .returned (.bool (l.any p)) ∧ Below w.heap.size w w' := by
  have I := fun (w : World) h ht => implIndexT a cap l g fs cb D Q p w hT h hq ht
  have Ha : Hid (decide (l.findIdx p < l.length) = l.any p) := any_idxT l p
  generalize l.any p = b at Ha ⊢
  by_cases hlt : l.findIdx p < l.length
  · rw [if_pos hlt] at I
    rw [decide_eq_true hlt] at Ha
    generalize l.findIdx p = N at I hlt
    generalize l.length = len at I hlt hT ⊢
    have I' : Hid _ := I
    clear I hlt
    have hp : (0 : Int) ≤ (N : Int) := by omega
    go_enter Tryz.func109, Tryz.ntmps109
    go_wp2_with fail
    refine (I'.out _ h ht).mono ?_
    rintro e w' ⟨rfl, hb⟩
    have B2 : Hid (Below w.heap.size w w') := hb
    clear hb
    go_wp2
    go_ret
    exact ⟨ret_bool (by rw [← Ha.out]), B2.out⟩
  · rw [if_neg hlt] at I
    rw [decide_eq_false hlt] at Ha
    generalize l.length = len at I hT ⊢
    have I' : Hid _ := I
    clear I hlt
    go_enter Tryz.func109, Tryz.ntmps109
    go_wp2_with fail
    refine (I'.out _ h ht).mono ?_
    rintro e w' ⟨rfl, hb⟩
    have B2 : Hid (Below w.heap.size w w') := hb
    clear hb
    go_wp2
    go_ret
    exact ⟨ret_bool (by rw [← Ha.out]), B2.out⟩
end Go.Proofs.YtaojbmhodpffiaaGreat

/-
  The walks of slices.IndexFunc and slices.ContainsFunc on numbers, for whatever function tells yes or no. By the verifier.
-/
import Derived.Test.YtfdapmchpikfiaaM3PzSpecW
import Derived.Test.YtfdapmchpikfiaaQuiet
import Derived.Shelf.Abstract
import Derived.WalkKit
import Derived.WalkSpells
import Derived.WalkLawsBesides
import Derived.RegionTactic
namespace Go.Proofs.Ytfdapmchpikfiaa
open Go.RowKit Go.Shelf

/-- A function that tells yes or no of a number, as long as all that lay lies. -/
structure TellsI (W0 : World) (g : FuncId) (fs cb : Array Value) (Q : Int → Prop) (p : Int → Bool) : Prop where
  enters : Enters Try.prog g
  tells : ∀ (W : World) (x : Int), Q x → Below W0.heap.size W0 W → Calls Try.prog g (fs ++ #[.int .i64 x] ++ cb) W fun e w' => e = .returned (.bool (p x)) ∧ Below W.heap.size W w'

set_option maxHeartbeats 1600000 in
theorem implIndexI (a : Option Addr) (cap : Nat) (l : List Int) (g : FuncId) (fs cb : Array Value) (Q : Int → Prop) (p : Int → Bool) (w : World) (hT : l.length ≤ 1024) (h : Hid (IntsAt w a l)) (hq : Hid (∀ x ∈ l, Q x)) (ht : Hid (TellsI w g fs cb Q p)) :
    Calls Try.prog 53 #[.slice a l.length cap, .func (.func g) fs cb] w fun e w' => e = .returned (.int .i64 (if l.findIdx p < l.length then (l.findIdx p : Int) else -1)) ∧ Below w.heap.size w w' := by
  have eg : ∀ args w, (callFunc g args).run Try.prog w = .ok (.enter g args) w := ht.out.enters
  obtain ⟨len, hlen⟩ : ∃ n, l.length = n := ⟨_, rfl⟩
  have Hlen : Hid (l.length = len) := hlen
  obtain ⟨N, hN⟩ : ∃ N, l.findIdx p = N := ⟨_, rfl⟩
  have HN : Hid (l.findIdx p = N) := hN
  have hNl : N ≤ len := by rw [← hN, ← hlen]; exact List.findIdx_le_length
  rw [hlen] at hT ⊢
  rw [hN]
  clear hlen hN
  go_enter Try.func53, Try.ntmps53
  go_wp2
  go_loopw [8] (fun i wr => ∃ k : Nat, k ≤ N ∧ i = .int .i64 k ∧ Hid (Below w.heap.size w wr)) (fun i _ => len - (intOf i).toNat)
  case atStart => exact ⟨0, Nat.zero_le _, rfl, Below.refl _ _⟩
  case round =>
    obtain ⟨k, hk, rfl, H1⟩ := hrel
    by_cases hlt : k < len
    · obtain ⟨b1, o1, ha1, hb1, c0⟩ := (h.out.below H1.out) k (by rw [Hlen.out]; exact hlt)
      subst ha1
      have hkL : k < l.length := by rw [Hlen.out]; exact hlt
      rw [List.getElem?_eq_getElem hkL, Option.getD_some] at c0
      have HC := ht.out.tells wr l[k] (hq.out _ (List.getElem_mem hkL)) H1.out
      have hlt' : (k : Int) < (len : Int) := by omega
      by_cases hkN : k = N
      · have hp : p l[k] = true := by
          have := List.findIdx_getElem (p := p) (xs := l) (w := by rw [HN.out, Hlen.out, ← hkN]; exact hlt)
          simpa only [HN.out, ← hkN] using this
        rw [hp] at HC
        clear hp
        generalize l[k] = x at c0 HC
        subst hkN
        clear hkL
        go_wp2_with fail
        refine HC.mono ?_
        rintro e w' ⟨rfl, hb'⟩
        have B2 : Hid (Below w.heap.size w w') := H1.out.trans (hb'.mono H1.out.size)
        clear hb' H1 HC
        go_wp2
        go_ret
        exact ⟨by first | rfl | (rw [if_pos hlt]; rfl), B2.out⟩
      · have hp : p l[k] = false := by
          have := List.not_of_lt_findIdx (p := p) (xs := l) (i := k) (by rw [HN.out]; omega)
          simpa using this
        rw [hp] at HC
        clear hp
        generalize l[k] = x at c0 HC
        clear hkL
        go_wp2_with fail
        refine HC.mono ?_
        rintro e w' ⟨rfl, hb'⟩
        have B2 : Hid (Below w.heap.size w w') := H1.out.trans (hb'.mono H1.out.size)
        clear hb' H1 HC
        go_wp2
        go_roundw
        case rel => exact ⟨k + 1, by omega, by go_num, B2⟩
        case measure => simp [intOf]; omega
    · obtain rfl : k = len := by omega
      obtain rfl : k = N := by omega
      go_wp2
      go_ret
      exact ⟨by first | rfl | (rw [if_neg (Nat.lt_irrefl _)]; rfl), H1.out⟩

set_option maxHeartbeats 800000 in
theorem implHasI (a : Option Addr) (cap : Nat) (l : List Int) (g : FuncId) (fs cb : Array Value) (Q : Int → Prop) (p : Int → Bool) (w : World) (hT : l.length ≤ 1024) (h : Hid (IntsAt w a l)) (hq : Hid (∀ x ∈ l, Q x)) (ht : Hid (TellsI w g fs cb Q p)) :
    Calls Try.prog 30 #[.slice a l.length cap, .func (.func g) fs cb] w fun e w' => e = .returned (.bool (l.any p)) ∧ Below w.heap.size w w' := by
  have I := implIndexI a cap l g fs cb Q p w hT h hq ht
  have hd : l.any p = decide (l.findIdx p < l.length) := by
    by_cases hh : l.findIdx p < l.length
    · rw [decide_eq_true hh, List.any_eq_true]
      rw [List.findIdx_lt_length] at hh
      exact hh
    · rw [decide_eq_false hh]
      rw [List.findIdx_lt_length] at hh
      cases e : l.any p
      · rfl
      · exact absurd (List.any_eq_true.1 e) hh
  rw [hd]
  generalize l.findIdx p = N at I ⊢
  generalize l.length = len at I ⊢
  clear hd hT h
  go_enter Try.func30, Try.ntmps30
  go_wp2_with fail
  refine I.mono ?_
  rintro e w1 ⟨rfl, b1⟩
  have B1 : Hid (Below w.heap.size w w1) := b1
  clear b1 I
  by_cases hk : N < len
  · rw [if_pos hk]
    have h0 : (0 : Int) ≤ (N : Int) := by omega
    go_wp2
    go_ret
    exact ⟨by simp [hk], B1.out⟩
  · rw [if_neg hk]
    go_wp2
    go_ret
    exact ⟨by simp [hk], B1.out⟩
end Go.Proofs.Ytfdapmchpikfiaa

/-
  The walks of slices.IndexFunc and slices.ContainsFunc on numbers, and of the function that tells where two tries differ. By the verifier.
-/
import Derived.Test.YtilnjmpnhadidaaRtTrie
import Derived.Test.YtilnjmpnhadidaaQuiet
import Derived.BigQuiet
namespace Go.Proofs.Ytilnjmpnhadidaa
open Go.RowKit

/-- A function that tells yes or no of a number, as long as all that lay lies. -/
structure TellsI (W0 : World) (g : FuncId) (fs cb : Array Value) (Q : Int → Prop) (p : Int → Bool) : Prop where
  enters : Enters Try.prog g
  tells : ∀ (W : World) (x : Int), Q x → Below W0.heap.size W0 W → Calls Try.prog g (fs ++ #[.int .i64 x] ++ cb) W fun e w' => e = .returned (.bool (p x)) ∧ Below W.heap.size W w'

set_option maxHeartbeats 1600000 in
theorem implIndexI (a : Option Addr) (cap : Nat) (l : List Int) (g : FuncId) (fs cb : Array Value) (Q : Int → Prop) (p : Int → Bool) (w : World) (hT : l.length ≤ 1024) (h : Hid (IntsAt w a l)) (hq : Hid (∀ x ∈ l, Q x)) (ht : Hid (TellsI w g fs cb Q p)) :
    Calls Try.prog 72 #[.slice a l.length cap, .func (.func g) fs cb] w fun e w' => e = .returned (.int .i64 (if l.findIdx p < l.length then (l.findIdx p : Int) else -1)) ∧ Below w.heap.size w w' := by
  have eg : ∀ args w, (callFunc g args).run Try.prog w = .ok (.enter g args) w := ht.out.enters
  obtain ⟨len, hlen⟩ : ∃ n, l.length = n := ⟨_, rfl⟩
  have Hlen : Hid (l.length = len) := hlen
  obtain ⟨N, hN⟩ : ∃ N, l.findIdx p = N := ⟨_, rfl⟩
  have HN : Hid (l.findIdx p = N) := hN
  have hNl : N ≤ len := by rw [← hN, ← hlen]; exact List.findIdx_le_length
  rw [hlen] at hT ⊢
  rw [hN]
  clear hlen hN
  go_enter Try.func72, Try.ntmps72
  go_wp2
  go_loopw [8] (fun i wr => ∃ k : Nat, k ≤ N ∧ i = .int .i64 k ∧ Hid (Below w.heap.size w wr)) (fun i _ => len - (intOf i).toNat)
  case atStart => exact ⟨0, Nat.zero_le _, rfl, Below.refl _ _⟩
  case round =>
    obtain ⟨k, hk, rfl, H1⟩ := hrel
    by_cases hlt : k < len
    · obtain ⟨b1, o1, ha1, hb1, c0⟩ := (h.out.below H1.out) k (by rw [Hlen.out]; exact hlt)
      subst ha1
      have hkL : k < l.length := by rw [Hlen.out]; exact hlt
      rw [List.getElem?_eq_getElem hkL, Option.getD_some] at c0
      have HC := ht.out.tells wr l[k] (hq.out _ (List.getElem_mem hkL)) H1.out
      have hlt' : (k : Int) < (len : Int) := by omega
      by_cases hkN : k = N
      · have hp : p l[k] = true := by
          have := List.findIdx_getElem (p := p) (xs := l) (w := by rw [HN.out, Hlen.out, ← hkN]; exact hlt)
          simpa only [HN.out, ← hkN] using this
        rw [hp] at HC
        clear hp
        generalize l[k] = x at c0 HC
        subst hkN
        clear hkL
        go_wp2_with fail
        refine HC.mono ?_
        rintro e w' ⟨rfl, hb'⟩
        have B2 : Hid (Below w.heap.size w w') := H1.out.trans (hb'.mono H1.out.size)
        clear hb' H1 HC
        go_wp2
        go_ret
        exact ⟨by first | rfl | (rw [if_pos hlt]; rfl), B2.out⟩
      · have hp : p l[k] = false := by
          have := List.not_of_lt_findIdx (p := p) (xs := l) (i := k) (by rw [HN.out]; omega)
          simpa using this
        rw [hp] at HC
        clear hp
        generalize l[k] = x at c0 HC
        clear hkL
        go_wp2_with fail
        refine HC.mono ?_
        rintro e w' ⟨rfl, hb'⟩
        have B2 : Hid (Below w.heap.size w w') := H1.out.trans (hb'.mono H1.out.size)
        clear hb' H1 HC
        go_wp2
        go_roundw
        case rel => exact ⟨k + 1, by omega, by go_num, B2⟩
        case measure => simp [intOf]; omega
    · obtain rfl : k = len := by omega
      obtain rfl : k = N := by omega
      go_wp2
      go_ret
      exact ⟨by first | rfl | (rw [if_neg (Nat.lt_irrefl _)]; rfl), H1.out⟩

set_option maxHeartbeats 800000 in
theorem implHasI (a : Option Addr) (cap : Nat) (l : List Int) (g : FuncId) (fs cb : Array Value) (Q : Int → Prop) (p : Int → Bool) (w : World) (hT : l.length ≤ 1024) (h : Hid (IntsAt w a l)) (hq : Hid (∀ x ∈ l, Q x)) (ht : Hid (TellsI w g fs cb Q p)) :
    Calls Try.prog 36 #[.slice a l.length cap, .func (.func g) fs cb] w fun e w' => e = .returned (.bool (l.any p)) ∧ Below w.heap.size w w' := by
  have I := implIndexI a cap l g fs cb Q p w hT h hq ht
  have hd : l.any p = decide (l.findIdx p < l.length) := by
    by_cases hh : l.findIdx p < l.length
    · rw [decide_eq_true hh, List.any_eq_true]
      rw [List.findIdx_lt_length] at hh
      exact hh
    · rw [decide_eq_false hh]
      rw [List.findIdx_lt_length] at hh
      cases e : l.any p
      · rfl
      · exact absurd (List.any_eq_true.1 e) hh
  rw [hd]
  generalize l.findIdx p = N at I ⊢
  generalize l.length = len at I ⊢
  clear hd hT h
  go_enter Try.func36, Try.ntmps36
  go_wp2_with fail
  refine I.mono ?_
  rintro e w1 ⟨rfl, b1⟩
  have B1 : Hid (Below w.heap.size w w1) := b1
  clear b1 I
  by_cases hk : N < len
  · rw [if_pos hk]
    have h0 : (0 : Int) ≤ (N : Int) := by omega
    go_wp2
    go_ret
    exact ⟨by simp [hk], B1.out⟩
  · rw [if_neg hk]
    go_wp2
    go_ret
    exact ⟨by simp [hk], B1.out⟩

set_option maxHeartbeats 1600000 in
theorem implDiff (ha hb : Int → Int) (va vb : Value) (B5 B6 : Nat) (addr : Int) (a0 : 0 ≤ addr) (a1 : addr ≤ 4294967295) (w : World) (A5 : Hid (Answers w va 0 0 ha)) (A6 : Hid (Answers w vb 0 0 hb)) (h5 : Hid (Boxed w B5 #[va] 46)) (h6 : Hid (Boxed w B6 #[vb] 46)) :
    Calls Try.prog 39 #[.int .i64 addr, .pointer (some ⟨B5, 0, none⟩), .pointer (some ⟨B6, 0, none⟩)] w fun e w' => e = .returned (.bool (!decide (ha addr = hb addr))) ∧ Below w.heap.size w w' := by
  obtain ⟨g5, cb5, D5, rfl, e5, d5, k5⟩ := A5.out
  obtain ⟨g6, cb6, D6, rfl, e6, d6, k6⟩ := A6.out
  have hz : addr / 2 ^ (32 - 0) = 0 := by
    have : (2 : Int) ^ (32 - 0) = 4294967296 := by decide
    rw [this]; omega
  have K5 : ∀ p : BelW w.heap.size w, Calls Try.prog g5 (#[.int .i64 addr] ++ cb5) p.w' fun e w' => e = .returned (.int .i64 (ha addr)) ∧ Below p.w'.heap.size p.w' w' := fun p => (k5 p.w' addr a0 a1 hz fun k hk => p.h.block k (d5 k hk).1).mono fun e w' hh => ⟨hh.1, by rw [hh.2]; exact Below.refl _ _⟩
  have K6 : ∀ p : BelW w.heap.size w, Calls Try.prog g6 (#[.int .i64 addr] ++ cb6) p.w' fun e w' => e = .returned (.int .i64 (hb addr)) ∧ Below p.w'.heap.size p.w' w' := fun p => (k6 p.w' addr a0 a1 hz fun k hk => p.h.block k (d6 k hk).1).mono fun e w' hh => ⟨hh.1, by rw [hh.2]; exact Below.refl _ _⟩
  have eg5 : ∀ args w, (callFunc g5 args).run Try.prog w = .ok (.enter g5 args) w := e5
  have eg6 : ∀ args w, (callFunc g6 args).run Try.prog w = .ok (.enter g6 args) w := e6
  have f5 : ∀ p : BelW w.heap.size w, p.w'.cell? ⟨B5, 0, none⟩ = some (.func (.func g5) #[] cb5) := fun p => (h5.out.below h5.out.under p.h).cell 0 rfl
  have f6 : ∀ p : BelW w.heap.size w, p.w'.cell? ⟨B6, 0, none⟩ = some (.func (.func g6) #[] cb6) := fun p => (h6.out.below h6.out.under p.h).cell 0 rfl
  have K5' : Hid _ := K5
  have K6' : Hid _ := K6
  generalize ha addr = x at K5' ⊢
  generalize hb addr = y at K6' ⊢
  clear K5 K6 k5 k6 d5 d6 e5 e6 hz A5 A6
  haveI : Nonempty (BelW w.heap.size w) := ⟨⟨w, Below.refl _ _⟩⟩
  go_enter Try.func39, Try.ntmps39
  go_wp2_with fail
  refine region_below w.heap.size (by kernel_rfl) (by kernel_rfl) ?_
  repeat (go_big_quiet_step ((first | (go_at_fn g5; refine quiet_below (Nat.le_refl _) (K5'.out _)) | (go_at_fn g6; refine quiet_below (Nat.le_refl _) (K6'.out _)))))
  refine wpQuiet_nil ?_
  intro wq hx
  have HQ : Hid (Below w.heap.size w wq) := BelW.out hx
  clear hx f5 f6 K5' K6'
  go_wp2
  go_ret
  exact ⟨by by_cases e : x = y <;> simp [e], HQ.out⟩
end Go.Proofs.Ytilnjmpnhadidaa

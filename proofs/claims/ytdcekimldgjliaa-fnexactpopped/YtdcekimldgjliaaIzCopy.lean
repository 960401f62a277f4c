/-
  The walks of the laws' copies of lists of lists of records (Item), of their sizes, and of their comparisons where both hold the same. By the verifier, by program.
-/
import Derived.Test.YtdcekimldgjliaaM0IzPlain
import Derived.Test.YtdcekimldgjliaaItCopy
namespace Go.Proofs.Ytdcekimldgjliaa
open Go.RowKit

set_option maxHeartbeats 1600000 in
theorem szIzs (L : Int) (h0 : 0 ≤ L) (h1 : L ≤ 1048576) (a : Option Addr) (cap : Nat) (ls : List (List It)) (w : World) (hl : (ls.length : Int) ≤ 9223372036854775807) (hin : Hid (∀ k, k < ls.length → ((izAt ls k).length : Int) ≤ 9223372036854775807)) (h : Hid (IzAt w a ls)) :
    Calls Try.prog 25 #[.slice a ls.length cap, .int .i64 L] w fun e w' => e = .returned (.int .i64 (if L - (ls.length + izSum ls ls.length : Nat) < 0 then -1 else L - (ls.length + izSum ls ls.length : Nat))) ∧ w' = w := by
  obtain ⟨len, hlen⟩ : ∃ n, ls.length = n := ⟨_, rfl⟩
  obtain ⟨R, hR⟩ : ∃ R : Int, R = if L - (ls.length + izSum ls ls.length : Nat) < 0 then -1 else L - (ls.length + izSum ls ls.length : Nat) := ⟨_, rfl⟩
  rw [← hR]
  have HR : Hid (R = if L - (len + izSum ls len : Nat) < 0 then -1 else L - (len + izSum ls len : Nat)) := by rw [hlen] at hR; exact hR
  clear hR
  rw [hlen] at hl ⊢
  have Hlen : Hid (ls.length = len) := hlen
  clear hlen
  by_cases hbig : L - len < 0
  · have hr : R = -1 := by rw [HR.out, if_pos (by push_cast; omega)]
    subst hr
    go_enter Try.func25, Try.ntmps25
    go_wp2
    go_ret
    exact ⟨rfl, rfl⟩
  · go_enter Try.func25, Try.ntmps25
    go_wp2
    go_loop [1, 5] (fun l i => ∃ (k : Nat) (lf : Int), k ≤ len ∧ i = .int .i64 k ∧ l = .int .i64 lf ∧ 0 ≤ lf ∧ lf ≤ 1048576 ∧ Hid (lf = L - len - izSum ls k)) (fun _ i => len - (intOf i).toNat)
    case atStart => exact ⟨0, L - len, Nat.zero_le _, rfl, rfl, by omega, by omega, by show L - len = L - len - (izSum ls 0 : Nat); rw [izSum_zero]; simp⟩
    case round =>
      obtain ⟨k, lf, hk, rfl, rfl, f0, f1, Hf⟩ := hrel
      by_cases hlt : k < len
      · obtain ⟨b, off, ak, ck, ha, hb, hc, -, -⟩ := h.out k (by rw [Hlen.out]; exact hlt)
        subst ha
        have hi := hin.out k (by rw [Hlen.out]; exact hlt)
        have hs := izSum_succ (ls := ls) (i := k) (by rw [Hlen.out]; exact hlt)
        have hm := izSum_mono (ls := ls) (i := k + 1) (j := len) (by omega) (by rw [Hlen.out]; exact Nat.le_refl _)
        generalize (izAt ls k).length = n at hc hi hs
        have C := szIts lf f0 f1 ak ck n w hi
        have Hs : Hid (izSum ls (k + 1) = izSum ls k + n) := hs
        have Hm : Hid (izSum ls (k + 1) ≤ izSum ls len) := hm
        clear hs hm
        by_cases hn : lf - n < 0
        · rw [if_pos hn] at C
          have hr : R = -1 := by
            rw [HR.out, if_pos]
            have := Hf.out
            have := Hs.out
            have := Hm.out
            push_cast
            omega
          subst hr
          go_wp2_with fail
          refine C.mono ?_
          rintro e w' ⟨rfl, hw⟩
          have hw := hw.symm
          subst hw
          go_wp2
          go_ret
          exact ⟨rfl, rfl⟩
        · rw [if_neg hn] at C
          go_wp2_with fail
          refine C.mono ?_
          rintro e w' ⟨rfl, hw⟩
          have hw := hw.symm
          subst hw
          go_wp2
          go_round
          case rel =>
            refine ⟨k + 1, lf - n, by omega, by go_num, rfl, by omega, by omega, ?_⟩
            show lf - n = L - len - (izSum ls (k + 1) : Nat)
            rw [Hs.out, Hf.out]
            push_cast
            omega
          case measure => simp [intOf]; omega
      · obtain rfl : k = len := by omega
        have hr : R = lf := by
          rw [HR.out, if_neg (by have := Hf.out; push_cast; omega), Hf.out]
          push_cast
          omega
        subst hr
        go_wp2
        go_ret
        exact ⟨rfl, rfl⟩

set_option maxHeartbeats 3200000 in
set_option maxRecDepth 100000 in
theorem eqIzs (a1 a2 : Option Addr) (cap1 cap2 : Nat) (ls : List (List It)) (w : World) (hT : ls.length ≤ 1048576) (hin : Hid (∀ k, k < ls.length → (izAt ls k).length ≤ 1048576)) (h1 : Hid (IzAt w a1 ls)) (h2 : Hid (IzAt w a2 ls)) :
    Calls Try.prog 34 #[.slice a1 ls.length cap1, .slice a2 ls.length cap2] w fun e w' => e = .returned (.bool true) ∧ Below w.heap.size w w' := by
  obtain ⟨len, hlen⟩ : ∃ n, ls.length = n := ⟨_, rfl⟩
  rw [hlen] at hT ⊢
  have Hlen : Hid (ls.length = len) := hlen
  clear hlen
  go_enter Try.func34, Try.ntmps34
  go_wp2
  go_loopw [5] (fun i wr => ∃ k : Nat, k ≤ len ∧ i = .int .i64 k ∧ Hid (Below w.heap.size w wr)) (fun i _ => len - (intOf i).toNat)
  case atStart => exact ⟨0, Nat.zero_le _, rfl, Below.refl _ _⟩
  case round =>
    obtain ⟨k, hk, rfl, hb⟩ := hrel
    by_cases hlt : k < len
    · have R1 : Hid (IzAt wr a1 ls) := h1.out.below hb.out
      have R2 : Hid (IzAt wr a2 ls) := h2.out.below hb.out
      obtain ⟨b1, o1, i1, c1, ha1, hb1, hc1, hr1, -⟩ := R1.out k (by rw [Hlen.out]; exact hlt)
      obtain ⟨b2, o2, i2, c2, ha2, hb2, hc2, hr2, -⟩ := R2.out k (by rw [Hlen.out]; exact hlt)
      subst ha1; subst ha2
      have hi := hin.out k (by rw [Hlen.out]; exact hlt)
      have E := fun w h1 h2 => eqIts i1 i2 c1 c2 (izAt ls k) w hi h1 h2
      generalize izAt ls k = l at hc1 hc2 hr1 hr2 E
      generalize l.length = n at hc1 hc2 E
      have f1 : ∀ p : BelW wr.heap.size wr, p.w'.cell? ⟨b1, o1 + k, none⟩ = some (.slice i1 n c1) := fun p => by rw [p.h.cell (p := ⟨b1, o1 + k, none⟩) hb1]; exact hc1
      have f2 : ∀ p : BelW wr.heap.size wr, p.w'.cell? ⟨b2, o2 + k, none⟩ = some (.slice i2 n c2) := fun p => by rw [p.h.cell (p := ⟨b2, o2 + k, none⟩) hb2]; exact hc2
      have g1 : Hid (∀ p : BelW wr.heap.size wr, ItsAt p.w' i1 l) := fun p => hr1.below p.h
      have g2 : Hid (∀ p : BelW wr.heap.size wr, ItsAt p.w' i2 l) := fun p => hr2.below p.h
      have E' : Hid _ := E
      clear hc1 hc2 hr1 hr2 E R1 R2
      have hlt' : (k : Int) < (len : Int) := by omega
      go_wp2
      haveI : Nonempty (BelW wr.heap.size wr) := ⟨⟨wr, Below.refl _ _⟩⟩
      refine region_below wr.heap.size (by kernel_rfl) (by kernel_rfl) ?_
      repeat (quiet_step ((go_at_call 55; refine quiet_below (Nat.le_refl _) (E'.out _ (g1.out _) (g2.out _)))))
      refine wpQuiet_nil ?_
      intro wq hx
      have hq := BelW.out hx
      have B : Hid (Below w.heap.size w wq) := hb.out.trans (hq.mono hb.out.size)
      clear hx hq f1 f2 g1 g2
      go_wp2
      go_roundw
      case rel => exact ⟨k + 1, by omega, by go_num, B⟩
      case measure => simp [intOf]; omega
    · go_wp2
      go_ret
      exact ⟨rfl, hb.out⟩
end Go.Proofs.Ytdcekimldgjliaa

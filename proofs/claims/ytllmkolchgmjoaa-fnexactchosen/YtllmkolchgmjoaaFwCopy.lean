/-
  The walks of the laws' sizes and comparisons of lists of records with a list (Flow). By the verifier, by program.
-/
import Derived.Test.YtllmkolchgmjoaaFwPlain
import Derived.Test.YtllmkolchgmjoaaIntCp
import Derived.Test.YtllmkolchgmjoaaBoxed
import Derived.Test.YtllmkolchgmjoaaQuiet
import Derived.BigQuiet
namespace Go.Proofs.Ytllmkolchgmjoaa
open Go.RowKit

set_option maxHeartbeats 1600000 in
theorem szFw (L : Int) (h0 : 0 ≤ L) (h1 : L ≤ 1048576) (r : Fw) (a : Option Addr) (c : Nat) (w : World) (hl : (r.sizes.length : Int) ≤ 9223372036854775807) :
    Calls Try.prog 70 #[r.val a c, .int .i64 L] w fun e w' => e = .returned (.int .i64 (if L - (r.sizes.length : Nat) < 0 then -1 else L - (r.sizes.length : Nat))) ∧ Below w.heap.size w w' := by
  obtain ⟨r0, r1, rl⟩ := r
  simp only [Fw.val] at hl ⊢
  generalize rl.length = n at hl ⊢
  have C1 := fun w => szIntsN a c n L w hl h0 h1
  by_cases hn : L - (n : Int) < 0
  · rw [if_pos hn]
    simp only [if_pos hn] at C1
    go_enter Try.func70, Try.ntmps70
    go_wp2_with fail
    refine (C1 _).mono ?_
    rintro e w' ⟨rfl, rfl⟩
    go_wp2
    go_ret
    exact ⟨rfl, (Below.refl _ _).alloc (Nat.le_refl _) _⟩
  · rw [if_neg hn]
    simp only [if_neg hn] at C1
    go_enter Try.func70, Try.ntmps70
    go_wp2_with fail
    refine (C1 _).mono ?_
    rintro e w' ⟨rfl, rfl⟩
    go_wp2
    go_ret
    exact ⟨rfl, (Below.refl _ _).alloc (Nat.le_refl _) _⟩

set_option maxHeartbeats 1600000 in
theorem szFws (L : Int) (h0 : 0 ≤ L) (h1 : L ≤ 1048576) (a : Option Addr) (cap : Nat) (ls : List Fw) (w : World) (hl : (ls.length : Int) ≤ 9223372036854775807) (hin : Hid (∀ k, k < ls.length → ((fwAt ls k).sizes.length : Int) ≤ 9223372036854775807)) (h : Hid (FwsAt w a ls)) :
    Calls Try.prog 56 #[.slice a ls.length cap, .int .i64 L] w fun e w' => e = .returned (.int .i64 (if L - (ls.length + fwSum ls ls.length : Nat) < 0 then -1 else L - (ls.length + fwSum ls ls.length : Nat))) ∧ Below w.heap.size w w' := by
  obtain ⟨len, hlen⟩ : ∃ n, ls.length = n := ⟨_, rfl⟩
  obtain ⟨R, hR⟩ : ∃ R : Int, R = if L - (ls.length + fwSum ls ls.length : Nat) < 0 then -1 else L - (ls.length + fwSum ls ls.length : Nat) := ⟨_, rfl⟩
  rw [← hR]
  have HR : Hid (R = if L - (len + fwSum ls len : Nat) < 0 then -1 else L - (len + fwSum ls len : Nat)) := by rw [hlen] at hR; exact hR
  clear hR
  rw [hlen] at hl ⊢
  have Hlen : Hid (ls.length = len) := hlen
  clear hlen
  by_cases hbig : L - len < 0
  · have hr : R = -1 := by rw [HR.out, if_pos (by push_cast; omega)]
    subst hr
    go_enter Try.func56, Try.ntmps56
    go_wp2
    go_ret
    exact ⟨rfl, Below.refl _ _⟩
  · go_enter Try.func56, Try.ntmps56
    go_wp2
    go_loopw [1, 5] (fun l i wr => ∃ (k : Nat) (lf : Int), k ≤ len ∧ i = .int .i64 k ∧ l = .int .i64 lf ∧ 0 ≤ lf ∧ lf ≤ 1048576 ∧ Hid (lf = L - len - fwSum ls k) ∧ Hid (Below w.heap.size w wr)) (fun _ i _ => len - (intOf i).toNat)
    case atStart => exact ⟨0, L - len, Nat.zero_le _, rfl, rfl, by omega, by omega, by show L - len = L - len - (fwSum ls 0 : Nat); rw [fwSum_zero]; simp, Below.refl _ _⟩
    case round =>
      obtain ⟨k, lf, hk, rfl, rfl, f0, f1, Hf, HW⟩ := hrel
      by_cases hlt : k < len
      · obtain ⟨b, off, ak, ck, ha, hb, ⟨c0, c1, c2⟩, -, -⟩ := (h.out.below HW.out) k (by rw [Hlen.out]; exact hlt)
        subst ha
        have hi := hin.out k (by rw [Hlen.out]; exact hlt)
        have hs := fwSum_succ (l := ls) (i := k) (by rw [Hlen.out]; exact hlt)
        have hm := fwSum_mono (l := ls) (i := k + 1) (j := len) (by omega) (by rw [Hlen.out]; exact Nat.le_refl _)
        generalize fwAt ls k = q at c0 c1 c2 hi hs
        obtain ⟨q0, q1, ql⟩ := q
        simp only at c0 c1 c2 hi hs
        have C1 := fun w => szFw lf f0 f1 ⟨q0, q1, ql⟩ ak ck w hi
        simp only [Fw.val] at C1
        generalize ql.length = n at c2 hi hs C1
        have Hs : Hid (fwSum ls (k + 1) = fwSum ls k + n) := hs
        have Hm : Hid (fwSum ls (k + 1) ≤ fwSum ls len) := hm
        clear hs hm
        by_cases hn : lf - (n : Nat) < 0
        · simp only [if_pos hn] at C1
          have hr : R = -1 := by
            rw [HR.out, if_pos]
            have := Hf.out
            have := Hs.out
            have := Hm.out
            push_cast
            omega
          subst hr
          go_wp2_with fail
          refine (C1 _).mono ?_
          rintro e w' ⟨rfl, qb⟩
          have HW2 : Hid (Below w.heap.size w w') := HW.out.trans (qb.mono HW.out.size)
          clear qb
          go_wp2
          go_ret
          exact ⟨rfl, HW2.out⟩
        · simp only [if_neg hn] at C1
          go_wp2_with fail
          refine (C1 _).mono ?_
          rintro e w' ⟨rfl, qb⟩
          have HW2 : Hid (Below w.heap.size w w') := HW.out.trans (qb.mono HW.out.size)
          have hn' : ¬ lf - (n : Int) < 0 := by omega
          clear qb
          go_wp2
          go_roundw
          case rel =>
            refine ⟨k + 1, lf - n, by omega, by go_num, rfl, by omega, by omega, ?_, HW2⟩
            show lf - n = L - len - (fwSum ls (k + 1) : Nat)
            rw [Hs.out, Hf.out]
            push_cast
            omega
          case measure => simp [intOf]; omega
      · obtain rfl : k = len := by omega
        have hr : R = lf := by
          rw [HR.out, if_neg (by have := Hf.out; push_cast; omega), Hf.out]
          push_cast
          omega
        subst hr
        go_wp2
        go_ret
        exact ⟨rfl, HW.out⟩

set_option maxHeartbeats 1600000 in
theorem eqFw (r : Fw) (a1 a2 : Option Addr) (c1 c2 : Nat) (w : World) (hT : r.sizes.length ≤ 1048576) (h1 : Hid (IntsAt w a1 r.sizes)) (h2 : Hid (IntsAt w a2 r.sizes)) :
    Calls Try.prog 72 #[r.val a1 c1, r.val a2 c2] w fun e w' => e = .returned (.bool true) ∧ Below w.heap.size w w' := by
  obtain ⟨r0, r1, rl⟩ := r
  simp only [Fw.val] at hT h1 h2 ⊢
  have E := fun w h1 h2 => eqIntsN a1 a2 c1 c2 rl w hT h1 h2
  generalize rl.length = n at E ⊢
  have E' : Hid _ := E
  clear E
  have X : Hid (IntsAt ((w.alloc (.cells #[.int .i64 r0, .int .i64 r1, .slice a1 n c1] 36)).alloc (.cells #[.int .i64 r0, .int .i64 r1, .slice a2 n c2] 36)) a1 rl ∧ IntsAt ((w.alloc (.cells #[.int .i64 r0, .int .i64 r1, .slice a1 n c1] 36)).alloc (.cells #[.int .i64 r0, .int .i64 r1, .slice a2 n c2] 36)) a2 rl ∧ Below w.heap.size w ((w.alloc (.cells #[.int .i64 r0, .int .i64 r1, .slice a1 n c1] 36)).alloc (.cells #[.int .i64 r0, .int .i64 r1, .slice a2 n c2] 36))) := by
    have b0 : Below w.heap.size w ((w.alloc (.cells #[.int .i64 r0, .int .i64 r1, .slice a1 n c1] 36)).alloc (.cells #[.int .i64 r0, .int .i64 r1, .slice a2 n c2] 36)) := ((Below.refl _ _).alloc (Nat.le_refl _) _).alloc (by simp) _
    exact ⟨h1.out.below b0, h2.out.below b0, b0⟩
  clear h1 h2
  go_enter Try.func72, Try.ntmps72
  go_wp2_with fail
  refine (E'.out _ X.out.1 X.out.2.1).mono ?_
  rintro e w1 ⟨rfl, qb⟩
  have X1 : Hid (Below w.heap.size w w1) := X.out.2.2.trans (qb.mono X.out.2.2.size)
  clear qb
  go_wp2
  go_ret
  exact ⟨rfl, X1.out⟩

set_option maxHeartbeats 3200000 in
set_option maxRecDepth 100000 in
theorem eqFws (a1 a2 : Option Addr) (cap1 cap2 : Nat) (ls : List Fw) (w : World) (hT : ls.length ≤ 1048576) (hin : Hid (∀ k, k < ls.length → (fwAt ls k).sizes.length ≤ 1048576)) (h1 : Hid (FwsAt w a1 ls)) (h2 : Hid (FwsAt w a2 ls)) :
    Calls Try.prog 58 #[.slice a1 ls.length cap1, .slice a2 ls.length cap2] w fun e w' => e = .returned (.bool true) ∧ Below w.heap.size w w' := by
  obtain ⟨len, hlen⟩ : ∃ n, ls.length = n := ⟨_, rfl⟩
  rw [hlen] at hT ⊢
  have Hlen : Hid (ls.length = len) := hlen
  clear hlen
  go_enter Try.func58, Try.ntmps58
  go_wp2
  go_loopw [5] (fun i wr => ∃ k : Nat, k ≤ len ∧ i = .int .i64 k ∧ Hid (Below w.heap.size w wr)) (fun i _ => len - (intOf i).toNat)
  case atStart => exact ⟨0, Nat.zero_le _, rfl, Below.refl _ _⟩
  case round =>
    obtain ⟨k, hk, rfl, hb⟩ := hrel
    by_cases hlt : k < len
    · obtain ⟨b1, o1, i1, e1, ha1, hb1, ⟨u0, u1, u2⟩, hr1, -⟩ := (h1.out.below hb.out) k (by rw [Hlen.out]; exact hlt)
      obtain ⟨b2, o2, i2, e2, ha2, hb2, ⟨v0, v1, v2⟩, hr2, -⟩ := (h2.out.below hb.out) k (by rw [Hlen.out]; exact hlt)
      subst ha1; subst ha2
      have hi := hin.out k (by rw [Hlen.out]; exact hlt)
      generalize fwAt ls k = q at u0 v0 u1 v1 u2 v2 hr1 hr2 hi
      obtain ⟨q0, q1, ql⟩ := q
      simp only at u0 v0 u1 v1 u2 v2 hr1 hr2 hi
      have E := fun w h1 h2 => eqFw ⟨q0, q1, ql⟩ i1 i2 e1 e2 w hi h1 h2
      simp only [Fw.val] at E
      generalize ql.length = n at u2 v2 E
      have f0 : ∀ p : BelW wr.heap.size wr, p.w'.cell? ⟨b1, o1 + k * 3, none⟩ = some (.int .i64 q0) := fun p => by rw [p.h.cell (p := ⟨b1, o1 + k * 3, none⟩) hb1]; exact u0
      have f1 : ∀ p : BelW wr.heap.size wr, p.w'.cell? ⟨b1, o1 + k * 3 + 1, none⟩ = some (.int .i64 q1) := fun p => by rw [p.h.cell (p := ⟨b1, o1 + k * 3 + 1, none⟩) hb1]; exact u1
      have f2 : ∀ p : BelW wr.heap.size wr, p.w'.cell? ⟨b1, o1 + k * 3 + 2, none⟩ = some (.slice i1 n e1) := fun p => by rw [p.h.cell (p := ⟨b1, o1 + k * 3 + 2, none⟩) hb1]; exact u2
      have g0 : ∀ p : BelW wr.heap.size wr, p.w'.cell? ⟨b2, o2 + k * 3, none⟩ = some (.int .i64 q0) := fun p => by rw [p.h.cell (p := ⟨b2, o2 + k * 3, none⟩) hb2]; exact v0
      have g1 : ∀ p : BelW wr.heap.size wr, p.w'.cell? ⟨b2, o2 + k * 3 + 1, none⟩ = some (.int .i64 q1) := fun p => by rw [p.h.cell (p := ⟨b2, o2 + k * 3 + 1, none⟩) hb2]; exact v1
      have g2 : ∀ p : BelW wr.heap.size wr, p.w'.cell? ⟨b2, o2 + k * 3 + 2, none⟩ = some (.slice i2 n e2) := fun p => by rw [p.h.cell (p := ⟨b2, o2 + k * 3 + 2, none⟩) hb2]; exact v2
      have t1 : Hid (∀ p : BelW wr.heap.size wr, IntsAt p.w' i1 ql) := fun p => hr1.below p.h
      have t2 : Hid (∀ p : BelW wr.heap.size wr, IntsAt p.w' i2 ql) := fun p => hr2.below p.h
      have E' : Hid _ := E
      clear u0 v0 u1 v1 u2 v2 hr1 hr2 E
      have hlt' : (k : Int) < (len : Int) := by omega
      go_wp2
      haveI : Nonempty (BelW wr.heap.size wr) := ⟨⟨wr, Below.refl _ _⟩⟩
      refine region_below wr.heap.size (by kernel_rfl) (by kernel_rfl) ?_
      repeat (go_big_quiet_step ((go_at_call 72; refine quiet_below (Nat.le_refl _) (E'.out _ (t1.out _) (t2.out _)))))
      refine wpQuiet_nil ?_
      intro wq hx
      have hq := BelW.out hx
      have B : Hid (Below w.heap.size w wq) := hb.out.trans (hq.mono hb.out.size)
      clear hx hq f0 g0 f1 g1 f2 g2 t1 t2
      go_wp2
      go_roundw
      case rel => exact ⟨k + 1, by omega, by go_num, B⟩
      case measure => simp [intOf]; omega
    · go_wp2
      go_ret
      exact ⟨rfl, hb.out⟩
end Go.Proofs.Ytllmkolchgmjoaa

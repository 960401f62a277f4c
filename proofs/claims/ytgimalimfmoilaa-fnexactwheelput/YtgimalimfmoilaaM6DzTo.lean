import Derived.Test.YtgimalimfmoilaaDuPlain
import Derived.RegionTactic
import Derived.WalkKit
import Derived.Test.YtgimalimfmoilaaM1NumIn
import Derived.Test.YtgimalimfmoilaaQuiet
import Derived.Test.YtgimalimfmoilaaM0DzPlain
import Derived.Test.YtgimalimfmoilaaDzBlk
/-
  The walk of the laws' copy of a record (Due). By the verifier, by program.
-/
namespace Go.Proofs.Ytgimalimfmoilaa
open Go.RowKit

set_option maxHeartbeats 1600000 in
theorem toDu (r : Du) (w : World) :
    Calls Try.prog 15 #[r.val] w fun e w' => e = .returned r.val ∧ w' = ((w.alloc (.cells r.cells.toArray 30)).alloc (.cells r.cells.toArray 33)).alloc (.cells r.cells.toArray 33) := by
  unfold Du.val Du.cells
  obtain ⟨v0, v1⟩ := r
  simp only []
  go_enter Try.func15, Try.ntmps15
  go_wp2
  refine bodyPost_ret (v := .agg #[.int .i64 v0, .int .i64 v1]) (by simp [results, Try.results15, go_sem]) rfl ⟨rfl, rfl⟩
theorem toDuB (r : Du) (w : World) :
    Calls Try.prog 15 #[r.val] w fun e w' => e = .returned r.val ∧ Below w.heap.size w w' :=
  (toDu r w).mono fun _ _ h => ⟨h.1, by
    rw [h.2]
    exact (((Below.refl _ w).alloc (Nat.le_refl _) _).alloc (by simp) _).alloc (by simp; omega) _⟩
end Go.Proofs.Ytgimalimfmoilaa

/-
  The walk of the laws' comparison of records (Due), where both hold the same. By the verifier, by program.
-/
namespace Go.Proofs.Ytgimalimfmoilaa
open Go.RowKit

set_option maxHeartbeats 1600000 in
theorem eqDu (r : Du) (w : World) :
    Calls Try.prog 21 #[r.val, r.val] w fun e w' => e = .returned (.bool true) ∧ Below w.heap.size w w' := by
  unfold Du.val
  obtain ⟨v0, v1⟩ := r
  simp only []
  go_enter Try.func21, Try.ntmps21
  go_wp2
  go_ret
  exact ⟨rfl, ((Below.refl _ w).alloc (Nat.le_refl _) _).alloc (by simp) _⟩
end Go.Proofs.Ytgimalimfmoilaa

/-
  The walks of the laws' copies of lists of records (Due), of their sizes, and of their comparisons where both hold the same. By the verifier, by program.
-/
namespace Go.Proofs.Ytgimalimfmoilaa
open Go.RowKit

set_option maxHeartbeats 3200000 in
set_option maxRecDepth 100000 in
theorem eqDus (a1 a2 : Option Addr) (cap1 cap2 : Nat) (l : List Du) (w : World) (hT : l.length ≤ 1048576) (h1 : Hid (DusAt w a1 l)) (h2 : Hid (DusAt w a2 l)) :
    Calls Try.prog 13 #[.slice a1 l.length cap1, .slice a2 l.length cap2] w fun e w' => e = .returned (.bool true) ∧ Below w.heap.size w w' := by
  obtain ⟨len, hlen⟩ : ∃ n, l.length = n := ⟨_, rfl⟩
  rw [hlen] at hT ⊢
  have Hlen : Hid (l.length = len) := hlen
  clear hlen
  go_enter Try.func13, Try.ntmps13
  go_wp2
  go_loopw [5] (fun i wr => ∃ k : Nat, k ≤ len ∧ i = .int .i64 k ∧ Hid (Below w.heap.size w wr)) (fun i _ => len - (intOf i).toNat)
  case atStart => exact ⟨0, Nat.zero_le _, rfl, Below.refl _ _⟩
  case round =>
    obtain ⟨k, hk, rfl, hb⟩ := hrel
    by_cases hlt : k < len
    · have R1 : Hid (DusAt wr a1 l) := h1.out.below hb.out
      have R2 : Hid (DusAt wr a2 l) := h2.out.below hb.out
      obtain ⟨b1, o1, ha1, -⟩ := R1.out k (by rw [Hlen.out]; exact hlt)
      obtain ⟨b2, o2, ha2, -⟩ := R2.out k (by rw [Hlen.out]; exact hlt)
      subst ha1; subst ha2
      have F1 := fun p : BelW wr.heap.size wr => (R1.out.below p.h).cells (k := k) (by rw [Hlen.out]; exact hlt)
      have F2 := fun p : BelW wr.heap.size wr => (R2.out.below p.h).cells (k := k) (by rw [Hlen.out]; exact hlt)
      have E := fun w => eqDu (duAt l k) w
      unfold Du.val at E
      generalize duAt l k = r at F1 F2 E
      have f1_0 := fun p => (F1 p).1
      have f1_1 := fun p => (F1 p).2
      have f2_0 := fun p => (F2 p).1
      have f2_1 := fun p => (F2 p).2
      clear F1 F2
      have hlt' : (k : Int) < (len : Int) := by omega
      go_wp2
      haveI : Nonempty (BelW wr.heap.size wr) := ⟨⟨wr, Below.refl _ _⟩⟩
      refine region_below wr.heap.size (by kernel_rfl) (by kernel_rfl) ?_
      repeat (quiet_step ((go_at_call 21; refine quiet_below (Nat.le_refl _) (E _))))
      refine wpQuiet_nil ?_
      intro wq hx
      have hq := BelW.out hx
      have B : Hid (Below w.heap.size w wq) := hb.out.trans (hq.mono hb.out.size)
      clear hx hq f1_0 f1_1 f2_0 f2_1
      go_wp2
      go_roundw
      case rel => exact ⟨k + 1, by omega, by go_num, B⟩
      case measure => simp [intOf]; omega
    · go_wp2
      go_ret
      exact ⟨rfl, hb.out⟩

set_option maxHeartbeats 3200000 in
set_option maxRecDepth 100000 in
theorem toDus (a : Option Addr) (cap : Nat) (l : List Du) (w : World) (hT : l.length ≤ 1048576) (h : Hid (DusAt w a l)) :
    Calls Try.prog 11 #[.slice a l.length cap] w fun e w' => ∃ g, e = .returned (.slice (some ⟨g, 0, none⟩) l.length l.length) ∧ DuRow w.heap.size w' (.slice (some ⟨g, 0, none⟩) l.length l.length) l ∧ Below w.heap.size w w' := by
  obtain ⟨i0, hi, hz0, hz1, hz2⟩ := info_parts duInfo
  obtain ⟨len, hlen⟩ : ∃ n, l.length = n := ⟨_, rfl⟩
  unfold DuRow
  rw [hlen] at hT ⊢
  have Hlen : Hid (l.length = len) := hlen
  clear hlen
  have hmk : ∀ wx, (Instr.makeSlice 25 (.int .i64 (len : Int)) (.int .i64 (len : Int))).run Try.prog wx = .ok (.slice (some ⟨wx.heap.size, 0, none⟩) len len) (wx.alloc (.cells (madeCells #[.int .i64 0, .int .i64 0] (len * 2)) 33)) := by
    intro wx
    have := run_make (P := Try.prog) wx 25 33 i0 (.agg #[.int .i64 0, .int .i64 0]) Try.underlying25 hi hz0 .i64 .i64 len len (by omega) (by omega) (by rw [hz2]; omega) (by omega)
    rw [this, hz1]; simp [Value.cells]
  have H0 : Hid ((w.alloc (.cells (madeCells #[.int .i64 0, .int .i64 0] (len * 2)) 33)).ownsRow w.heap.size 33 2 (.slice (some ⟨w.heap.size, 0, none⟩) len len) len (ducells (l.take 0 ++ List.replicate (len - 0) ⟨0, 0⟩))) := by
    have := World.ownsRow_lit (size := 2) (e := 33) (base := w.heap.size) w (madeCells #[.int .i64 0, .int .i64 0] (len * 2)) len (Nat.le_refl _) (by unfold maxLen; omega) (by rw [size_madeCells])
    rw [duMade] at this
    show World.ownsRow _ _ _ _ _ _ _
    simpa using this
  clear hi hz0 hz1 hz2
  go_enter Try.func11, Try.ntmps11
  go_wp2
  go_loopw [4] (fun i wr => ∃ k : Nat, k ≤ len ∧ i = .int .i64 k ∧ Hid (wr.ownsRow w.heap.size 33 2 (.slice (some ⟨w.heap.size, 0, none⟩) len len) len (ducells (l.take k ++ List.replicate (len - k) ⟨0, 0⟩)) ∧ Below w.heap.size w wr)) (fun i _ => len - (intOf i).toNat)
  case atStart => exact ⟨0, Nat.zero_le _, rfl, H0.out, (Below.refl _ _).alloc (Nat.le_refl _) _⟩
  case round =>
    clear H0 hmk
    obtain ⟨k, hk, rfl, H1⟩ := hrel
    by_cases hlt : k < len
    · have R : Hid (DusAt wr a l) := h.out.below H1.out.2
      obtain ⟨b1, o1, ha1, hb1, -⟩ := R.out k (by rw [Hlen.out]; exact hlt)
      subst ha1
      obtain ⟨c0, c1⟩ := R.out.cells (k := k) (by rw [Hlen.out]; exact hlt)
      have hts := duTakeSet l len k Hlen.out hlt
      have T := fun w => toDuB (duAt l k) w
      unfold Du.val at T
      generalize duAt l k = r at c0 c1 hts T
      have Hts : Hid _ := hts
      clear hts
      go_wp2_with fail
      refine (T _).mono ?_
      rintro e w2 ⟨rfl, b2⟩
      have hsz : w.heap.size < wr.heap.size := (World.ownsRow.lt H1.out.1 _ rfl).2
      have H2 : Hid (w2.ownsRow w.heap.size 33 2 (.slice (some ⟨w.heap.size, 0, none⟩) len len) len (ducells (l.take k ++ List.replicate (len - k) ⟨0, 0⟩)) ∧ Below w.heap.size w w2) := by
        refine ⟨?_, H1.out.2.trans (b2.mono H1.out.2.size)⟩
        have hh := H1.out.1
        refine ⟨hh.1, hh.2.imp id ?_⟩
        rintro ⟨g0, cp, cur, h1, h2, h3, h4⟩
        cases h1
        exact ⟨_, _, cur, rfl, h2, by rw [b2.block _ hsz]; exact h3, h4⟩
      have hL : (ducells (l.take k ++ List.replicate (len - k) ⟨0, 0⟩)).length = len * 2 := by
        rw [ducells_length]; have := Hlen.out; simp; omega
      have ex : ∀ j, j < len * 2 → ∃ v, w2.cell? ⟨w.heap.size, j, none⟩ = some v := by
        intro j hj
        rw [H2.out.1.cellAt j hj]
        exact ⟨_, List.getElem?_eq_getElem (by omega)⟩
      obtain ⟨y0, hy0⟩ := ex (k * 2) (by omega)
      obtain ⟨y1, hy1⟩ := ex (k * 2 + 1) (by omega)
      have z0 := H2.out.1.frozenAt (k * 2)
      have z1 := H2.out.1.frozenAt (k * 2 + 1)
      have H3 : Hid (_ ∧ Below w.heap.size w ((w2.setCell ⟨w.heap.size, k * 2, none⟩ (.int .i64 r.time)).setCell ⟨w.heap.size, k * 2 + 1, none⟩ (.int .i64 r.id))) := ⟨DuRow.put H2.out.1 k r, (H2.out.2.setCell (Nat.le_refl _) _).setCell (Nat.le_refl _) _⟩
      clear b2 hL ex H1 R H2
      go_wp2
      go_roundw
      case rel => exact ⟨k + 1, by omega, by go_num, by rw [← Hts.out]; exact H3.out⟩
      case measure => simp [intOf]; omega
    · obtain rfl : k = len := by omega
      go_wp2
      go_ret
      refine ⟨_, rfl, ?_, H1.out.2⟩
      have hh := H1.out.1
      rw [Nat.sub_self, List.take_of_length_le (by rw [Hlen.out]; omega)] at hh
      simpa using hh

theorem szDus (L : Int) (h0 : 0 ≤ L) (h1 : L ≤ 1048576) (a : Option Addr) (cap len : Nat) (w : World) (hl : (len : Int) ≤ 9223372036854775807) :
    Calls Try.prog 9 #[.slice a len cap, .int .i64 L] w fun e w' => e = .returned (.int .i64 (if L - len < 0 then -1 else L - len)) ∧ w' = w := by
  by_cases h : L - len < 0
  · rw [if_pos h]
    go_enter Try.func9, Try.ntmps9
    go_wp2
    go_ret
    exact ⟨rfl, rfl⟩
  · rw [if_neg h]
    go_enter Try.func9, Try.ntmps9
    go_wp2
    go_ret
    exact ⟨rfl, rfl⟩
end Go.Proofs.Ytgimalimfmoilaa

/-
  The walks of the laws' copies of lists of lists of records (Due), of their sizes, and of their comparisons where both hold the same. By the verifier, by program.
-/
namespace Go.Proofs.Ytgimalimfmoilaa
open Go.RowKit

set_option maxHeartbeats 1600000 in
theorem szDzs (L : Int) (h0 : 0 ≤ L) (h1 : L ≤ 1048576) (a : Option Addr) (cap : Nat) (ls : List (List Du)) (w : World) (hl : (ls.length : Int) ≤ 9223372036854775807) (hin : Hid (∀ k, k < ls.length → ((dzAt ls k).length : Int) ≤ 9223372036854775807)) (h : Hid (DzAt w a ls)) :
    Calls Try.prog 46 #[.slice a ls.length cap, .int .i64 L] w fun e w' => e = .returned (.int .i64 (if L - (ls.length + dzSum ls ls.length : Nat) < 0 then -1 else L - (ls.length + dzSum ls ls.length : Nat))) ∧ w' = w := by
  obtain ⟨len, hlen⟩ : ∃ n, ls.length = n := ⟨_, rfl⟩
  obtain ⟨R, hR⟩ : ∃ R : Int, R = if L - (ls.length + dzSum ls ls.length : Nat) < 0 then -1 else L - (ls.length + dzSum ls ls.length : Nat) := ⟨_, rfl⟩
  rw [← hR]
  have HR : Hid (R = if L - (len + dzSum ls len : Nat) < 0 then -1 else L - (len + dzSum ls len : Nat)) := by rw [hlen] at hR; exact hR
  clear hR
  rw [hlen] at hl ⊢
  have Hlen : Hid (ls.length = len) := hlen
  clear hlen
  by_cases hbig : L - len < 0
  · have hr : R = -1 := by rw [HR.out, if_pos (by push_cast; omega)]
    subst hr
    go_enter Try.func46, Try.ntmps46
    go_wp2
    go_ret
    exact ⟨rfl, rfl⟩
  · go_enter Try.func46, Try.ntmps46
    go_wp2
    go_loop [1, 5] (fun l i => ∃ (k : Nat) (lf : Int), k ≤ len ∧ i = .int .i64 k ∧ l = .int .i64 lf ∧ 0 ≤ lf ∧ lf ≤ 1048576 ∧ Hid (lf = L - len - dzSum ls k)) (fun _ i => len - (intOf i).toNat)
    case atStart => exact ⟨0, L - len, Nat.zero_le _, rfl, rfl, by omega, by omega, by show L - len = L - len - (dzSum ls 0 : Nat); rw [dzSum_zero]; simp⟩
    case round =>
      obtain ⟨k, lf, hk, rfl, rfl, f0, f1, Hf⟩ := hrel
      by_cases hlt : k < len
      · obtain ⟨b, off, ak, ck, ha, hb, hc, -, -⟩ := h.out k (by rw [Hlen.out]; exact hlt)
        subst ha
        have hi := hin.out k (by rw [Hlen.out]; exact hlt)
        have hs := dzSum_succ (ls := ls) (i := k) (by rw [Hlen.out]; exact hlt)
        have hm := dzSum_mono (ls := ls) (i := k + 1) (j := len) (by omega) (by rw [Hlen.out]; exact Nat.le_refl _)
        generalize (dzAt ls k).length = n at hc hi hs
        have C := szDus lf f0 f1 ak ck n w hi
        have Hs : Hid (dzSum ls (k + 1) = dzSum ls k + n) := hs
        have Hm : Hid (dzSum ls (k + 1) ≤ dzSum ls len) := hm
        clear hs hm
        by_cases hn : lf - n < 0
        · rw [if_pos hn] at C
          have hr : R = -1 := by
            rw [HR.out, if_pos]
            have := Hf.out
            have := Hs.out
            have := Hm.out
            push_cast
            omega
          subst hr
          go_wp2_with fail
          refine C.mono ?_
          rintro e w' ⟨rfl, hw⟩
          have hw := hw.symm
          subst hw
          go_wp2
          go_ret
          exact ⟨rfl, rfl⟩
        · rw [if_neg hn] at C
          go_wp2_with fail
          refine C.mono ?_
          rintro e w' ⟨rfl, hw⟩
          have hw := hw.symm
          subst hw
          go_wp2
          go_round
          case rel =>
            refine ⟨k + 1, lf - n, by omega, by go_num, rfl, by omega, by omega, ?_⟩
            show lf - n = L - len - (dzSum ls (k + 1) : Nat)
            rw [Hs.out, Hf.out]
            push_cast
            omega
          case measure => simp [intOf]; omega
      · obtain rfl : k = len := by omega
        have hr : R = lf := by
          rw [HR.out, if_neg (by have := Hf.out; push_cast; omega), Hf.out]
          push_cast
          omega
        subst hr
        go_wp2
        go_ret
        exact ⟨rfl, rfl⟩

set_option maxHeartbeats 3200000 in
set_option maxRecDepth 100000 in
theorem eqDzs (a1 a2 : Option Addr) (cap1 cap2 : Nat) (ls : List (List Du)) (w : World) (hT : ls.length ≤ 1048576) (hin : Hid (∀ k, k < ls.length → (dzAt ls k).length ≤ 1048576)) (h1 : Hid (DzAt w a1 ls)) (h2 : Hid (DzAt w a2 ls)) :
    Calls Try.prog 54 #[.slice a1 ls.length cap1, .slice a2 ls.length cap2] w fun e w' => e = .returned (.bool true) ∧ Below w.heap.size w w' := by
  obtain ⟨len, hlen⟩ : ∃ n, ls.length = n := ⟨_, rfl⟩
  rw [hlen] at hT ⊢
  have Hlen : Hid (ls.length = len) := hlen
  clear hlen
  go_enter Try.func54, Try.ntmps54
  go_wp2
  go_loopw [5] (fun i wr => ∃ k : Nat, k ≤ len ∧ i = .int .i64 k ∧ Hid (Below w.heap.size w wr)) (fun i _ => len - (intOf i).toNat)
  case atStart => exact ⟨0, Nat.zero_le _, rfl, Below.refl _ _⟩
  case round =>
    obtain ⟨k, hk, rfl, hb⟩ := hrel
    by_cases hlt : k < len
    · have R1 : Hid (DzAt wr a1 ls) := h1.out.below hb.out
      have R2 : Hid (DzAt wr a2 ls) := h2.out.below hb.out
      obtain ⟨b1, o1, i1, c1, ha1, hb1, hc1, hr1, -⟩ := R1.out k (by rw [Hlen.out]; exact hlt)
      obtain ⟨b2, o2, i2, c2, ha2, hb2, hc2, hr2, -⟩ := R2.out k (by rw [Hlen.out]; exact hlt)
      subst ha1; subst ha2
      have hi := hin.out k (by rw [Hlen.out]; exact hlt)
      have E := fun w h1 h2 => eqDus i1 i2 c1 c2 (dzAt ls k) w hi h1 h2
      generalize dzAt ls k = l at hc1 hc2 hr1 hr2 E
      generalize l.length = n at hc1 hc2 E
      have f1 : ∀ p : BelW wr.heap.size wr, p.w'.cell? ⟨b1, o1 + k, none⟩ = some (.slice i1 n c1) := fun p => by rw [p.h.cell (p := ⟨b1, o1 + k, none⟩) hb1]; exact hc1
      have f2 : ∀ p : BelW wr.heap.size wr, p.w'.cell? ⟨b2, o2 + k, none⟩ = some (.slice i2 n c2) := fun p => by rw [p.h.cell (p := ⟨b2, o2 + k, none⟩) hb2]; exact hc2
      have g1 : Hid (∀ p : BelW wr.heap.size wr, DusAt p.w' i1 l) := fun p => hr1.below p.h
      have g2 : Hid (∀ p : BelW wr.heap.size wr, DusAt p.w' i2 l) := fun p => hr2.below p.h
      have E' : Hid _ := E
      clear hc1 hc2 hr1 hr2 E R1 R2
      have hlt' : (k : Int) < (len : Int) := by omega
      go_wp2
      haveI : Nonempty (BelW wr.heap.size wr) := ⟨⟨wr, Below.refl _ _⟩⟩
      refine region_below wr.heap.size (by kernel_rfl) (by kernel_rfl) ?_
      repeat (quiet_step ((go_at_call 13; refine quiet_below (Nat.le_refl _) (E'.out _ (g1.out _) (g2.out _)))))
      refine wpQuiet_nil ?_
      intro wq hx
      have hq := BelW.out hx
      have B : Hid (Below w.heap.size w wq) := hb.out.trans (hq.mono hb.out.size)
      clear hx hq f1 f2 g1 g2
      go_wp2
      go_roundw
      case rel => exact ⟨k + 1, by omega, by go_num, B⟩
      case measure => simp [intOf]; omega
    · go_wp2
      go_ret
      exact ⟨rfl, hb.out⟩
end Go.Proofs.Ytgimalimfmoilaa

/-
  The walk of the laws' copy of a list of lists of records (Due). By the verifier, by program.
-/
namespace Go.Proofs.Ytgimalimfmoilaa
open Go.RowKit

set_option maxHeartbeats 3200000 in
set_option maxRecDepth 100000 in
theorem toDzs (a : Option Addr) (cap : Nat) (ls : List (List Du)) (w : World) (hT : ls.length ≤ 1048576) (hin : Hid (∀ k, k < ls.length → (dzAt ls k).length ≤ 1048576)) (h : Hid (DzAt w a ls)) :
    Calls Try.prog 48 #[.slice a ls.length cap] w fun e w' => ∃ g, e = .returned (.slice (some ⟨g, 0, none⟩) ls.length ls.length) ∧ DzIn w.heap.size w'.heap.size w' (.slice (some ⟨g, 0, none⟩) ls.length ls.length) ls ∧ Below w.heap.size w w' := by
  obtain ⟨i0, hi, hz0, hz1, hz2⟩ := info_parts dzInfo
  obtain ⟨len, hlen⟩ : ∃ n, ls.length = n := ⟨_, rfl⟩
  rw [hlen] at hT ⊢
  have Hlen : Hid (ls.length = len) := hlen
  clear hlen
  have hmk : ∀ wx, (Instr.makeSlice 45 (.int .i64 (len : Int)) (.int .i64 (len : Int))).run Try.prog wx = .ok (.slice (some ⟨wx.heap.size, 0, none⟩) len len) (wx.alloc (.cells (madeCells #[.slice none 0 0] (len * 1)) 25)) := by
    intro wx
    have := run_make (P := Try.prog) wx 45 25 i0 (.slice none 0 0) Try.underlying45 hi hz0 .i64 .i64 len len (by omega) (by omega) (by rw [hz2]; omega) (by omega)
    rw [this, hz1]; simp [Value.cells]
  have H0 : Hid (DzB ls len w.heap.size 0 [] (w.alloc (.cells (madeCells #[.slice none 0 0] (len * 1)) 25))) := by
    have := World.ownsRow_lit (size := 1) (e := 25) (base := w.heap.size) w (madeCells #[.slice none 0 0] (len * 1)) len (Nat.le_refl _) (by unfold maxLen; omega) (by rw [size_madeCells])
    rw [dzMade] at this
    exact ⟨by simpa using this, rfl, fun i hi => by omega, fun i hi => by omega, fun i j hi => by omega⟩
  clear hi hz0 hz1 hz2
  go_enter Try.func48, Try.ntmps48
  go_wp2
  go_loopw [4] (fun i wr => ∃ k : Nat, k ≤ len ∧ i = .int .i64 k ∧ Hid (∃ vs, DzB ls len w.heap.size k vs wr ∧ Below w.heap.size w wr)) (fun i _ => len - (intOf i).toNat)
  case atStart => exact ⟨0, Nat.zero_le _, rfl, [], by have := H0.out; rw [Nat.mul_one] at this; exact this, (Below.refl _ _).alloc (Nat.le_refl _) _⟩
  case round =>
    clear H0 hmk
    obtain ⟨k, hk, rfl, H1⟩ := hrel
    obtain ⟨vs, H1⟩ : ∃ vs, Hid (DzB ls len w.heap.size k vs wr ∧ Below w.heap.size w wr) := H1.out
    by_cases hlt : k < len
    · have R : Hid (DzAt wr a ls) := h.out.below H1.out.2
      obtain ⟨b1, o1, i1, c1, ha1, hb1, hc1, hr1, -⟩ := R.out k (by rw [Hlen.out]; exact hlt)
      subst ha1
      have hn := hin.out k (by rw [Hlen.out]; exact hlt)
      have T := fun w h => toDus i1 c1 (dzAt ls k) w hn h
      have hG : w.heap.size < wr.heap.size := (World.ownsRow.lt H1.out.1.outer _ rfl).2
      have St : Hid (∀ w2 x, DuRow wr.heap.size w2 (.slice (some ⟨x, 0, none⟩) (dzAt ls k).length (dzAt ls k).length) (dzAt ls k) → Below wr.heap.size wr w2 →
          (∃ vs', DzB ls len w.heap.size (k + 1) vs' (w2.setCell ⟨w.heap.size, k, none⟩ (.slice (some ⟨x, 0, none⟩) (dzAt ls k).length (dzAt ls k).length)) ∧ Below w.heap.size w (w2.setCell ⟨w.heap.size, k, none⟩ (.slice (some ⟨x, 0, none⟩) (dzAt ls k).length (dzAt ls k).length))) ∧ (∃ y, w2.cell? ⟨w.heap.size, k, none⟩ = some y) ∧ w2.frozen? ⟨w.heap.size, k, none⟩ = false) := fun w2 x q1 q2 => by
        have hb := H1.out.1.below q2
        refine ⟨⟨_, H1.out.1.add hlt q2 q1, (H1.out.2.trans (q2.mono H1.out.2.size)).setCell (Nat.le_refl _) _⟩, ?_, hb.outer.frozenAt k⟩
        rw [hb.outer.cellAt k (by omega)]
        exact ⟨_, List.getElem?_eq_getElem (by have := hb.len; simp; omega)⟩
      generalize dzAt ls k = l at hc1 hr1 T St
      generalize hln : l.length = n at hc1 T St
      clear hln
      have T' : Hid _ := T
      have Hr1 : Hid (DusAt wr i1 l) := hr1
      clear T hr1 hn R
      go_wp2_with fail
      refine (T'.out _ Hr1.out).mono ?_
      rintro e w2 ⟨x, rfl, q1, q2⟩
      obtain ⟨H3, ⟨y, hy⟩, hz⟩ := St.out w2 x q1 q2
      have H3 : Hid _ := H3
      have hG2 : w.heap.size < w2.heap.size := Nat.lt_of_lt_of_le hG q2.size
      clear q1 q2 St
      go_wp2
      go_roundw
      case rel => exact ⟨k + 1, by omega, by go_num, H3⟩
      case measure => simp [intOf]; omega
    · obtain rfl : k = len := by omega
      go_wp2
      go_ret
      exact ⟨_, rfl, ⟨vs, H1.out.1.done Hlen.out⟩, H1.out.2⟩
end Go.Proofs.Ytgimalimfmoilaa

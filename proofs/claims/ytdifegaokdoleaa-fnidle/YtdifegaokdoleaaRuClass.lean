/-
  The walk of the model's ClassOf. By the verifier.
-/
import Derived.Test.YtdifegaokdoleaaRuMatch
import Derived.Test.YtdifegaokdoleaaRuOkS
import Derived.Test.YtdifegaokdoleaaM2Box
namespace Go.Proofs.Ytdifegaokdoleaa
open Go.RowKit

theorem goodRs_all {l : List Ru} : ∀ {n : Nat}, goodRs l n = true → ∀ k, k < n → goodR l k = true := by
  intro n h k hk
  unfold goodRs at h
  rw [List.all_eq_true] at h
  exact h k (List.mem_range.2 hk)
theorem rus_ok {l : List Ru} (h : rusOk l = true) {k : Nat} (hk : k < l.length) : (ruAt l k).ok = true := by
  unfold rusOk at h
  rw [Bool.and_eq_true] at h
  have := goodRs_all h.2 k hk
  unfold goodR at this
  rw [Bool.and_eq_true] at this
  exact this.1
theorem rus_len {l : List Ru} (h : rusOk l = true) : l.length ≤ 40 := by
  unfold rusOk at h
  rw [Bool.and_eq_true, decide_eq_true_iff] at h
  exact h.1
/-- Which one of the first k goes ahead of all that match; -1: none matches. -/
def bestStep (l : List Ru) (f : Fr) (b : Int) (i : Nat) : Int := if ((ruAt l i).hits f && (decide (b < 0) || (ruAt l i).ahead (ruAt l b.toNat))) = true then i else b
def bestK (l : List Ru) (f : Fr) : Nat → Int
  | 0 => -1
  | k + 1 => bestStep l f (bestK l f k) k
theorem bestK_succ (l : List Ru) (f : Fr) (k : Nat) : bestK l f (k + 1) = bestStep l f (bestK l f k) k := rfl
def classL (l : List Ru) (f : Fr) : Int := if bestK l f l.length < 0 then 0 else (ruAt l (bestK l f l.length).toNat).cls
def classV (l : List Ru) (f : Fr) : Int := if rusOk l = true ∧ f.ok = true then classL l f else -1

set_option maxHeartbeats 12800000 in
set_option maxRecDepth 100000 in
theorem specClass (a0 : Option Addr) (cap : Nat) (l : List Ru) (f : Fr) (af : Option Addr) (cf : Nat) (w : World) (hl : rusOk l = true) (hf : f.ok = true) (h : Hid (RusAt w a0 l)) :
    Calls Try.prog 41 #[.slice a0 l.length cap, f.val af cf] w fun e w' => e = .returned (.int .i64 (classL l f)) ∧ Below w.heap.size w w' := by
  have Hv : Hid (classL l f = if bestK l f l.length < 0 then 0 else (ruAt l (bestK l f l.length).toNat).cls) := rfl
  have hlen40 := rus_len hl
  have HC := fun k (hk : k < l.length) w => specHits (ruAt l k) f af cf (rus_ok hl hk) hf w
  have HS0 : Hid (∀ b i, bestStep l f b i = if ((ruAt l i).hits f && (decide (b < 0) || (ruAt l i).ahead (ruAt l b.toNat))) = true then (i : Int) else b) := fun b i => rfl
  obtain ⟨len, hlen⟩ : ∃ n, l.length = n := ⟨_, rfl⟩
  rw [hlen] at Hv hlen40 HC ⊢
  have Hlen : Hid (l.length = len) := hlen
  clear hlen hl hf
  have Hb : Hid (∀ b, bestK l f (b + 1) = bestStep l f (bestK l f b) b) := fun b => rfl
  generalize classL l f = res at Hv ⊢
  generalize hFv : f.val af cf = fv at HC ⊢
  obtain ⟨f0, g1, ft, fs, fd, fp, sp, dp, mk, sm, fb⟩ := f
  simp only [Fr.val] at hFv
  subst hFv
  generalize ft.length = nf at HC ⊢
  have HC' : Hid _ := HC
  clear HC
  have X0 : Hid (Boxed (w.alloc (.cells #[.int .i64 f0, .int .i64 g1, .slice af nf cf, .int .i64 fs, .int .i64 fd, .int .i64 fp, .int .i64 sp, .int .i64 dp, .int .i64 mk, .int .i64 sm, .string fb] 27)) w.heap.size #[.int .i64 f0, .int .i64 g1, .slice af nf cf, .int .i64 fs, .int .i64 fd, .int .i64 fp, .int .i64 sp, .int .i64 dp, .int .i64 mk, .int .i64 sm, .string fb] 27) := Boxed.new _ _ _
  go_enter Try.func41, Try.ntmps41
  go_wp2
  go_loopw [5, 6] (fun best i wr => ∃ (k : Nat) (b : Int), k ≤ len ∧ best = .int .i64 b ∧ i = .int .i64 k ∧ bestK l ⟨f0, g1, ft, fs, fd, fp, sp, dp, mk, sm, fb⟩ k = b ∧ -1 ≤ b ∧ b < k ∧ Hid (Below w.heap.size w wr ∧ Boxed wr w.heap.size #[.int .i64 f0, .int .i64 g1, .slice af nf cf, .int .i64 fs, .int .i64 fd, .int .i64 fp, .int .i64 sp, .int .i64 dp, .int .i64 mk, .int .i64 sm, .string fb] 27)) (fun _ i _ => len - (intOf i).toNat)
  case atStart => exact ⟨0, -1, Nat.zero_le _, rfl, rfl, rfl, by omega, by omega, (Below.refl _ _).alloc (Nat.le_refl _) _, X0.out⟩
  case round =>
    clear X0
    obtain ⟨k, b, hk, rfl, rfl, hbk, b0, b1, hb⟩ := hrel
    have Hbk : Hid _ := hbk
    clear hbk
    by_cases hlt : k < len
    · have R : Hid (RusAt wr a0 l) := h.out.below hb.out.1
      have X : Hid (Boxed wr w.heap.size #[.int .i64 f0, .int .i64 g1, .slice af nf cf, .int .i64 fs, .int .i64 fd, .int .i64 fp, .int .i64 sp, .int .i64 dp, .int .i64 mk, .int .i64 sm, .string fb] 27) := hb.out.2
      obtain ⟨a1, o1, ha1, hb1, -⟩ := R.out k (by rw [Hlen.out]; exact hlt)
      subst ha1
      have hlt' : (k : Int) < (len : Int) := by omega
      have C := HC'.out k hlt
      have HS1 := HS0.out b k
      unfold Ru.val at C
      haveI : Nonempty (BelW wr.heap.size wr) := ⟨⟨wr, Below.refl _ _⟩⟩
      have f_0 := fun p : BelW wr.heap.size wr => ((R.out.below p.h).cells (k := k) (by rw [Hlen.out]; omega)).1
      have f_1 := fun p : BelW wr.heap.size wr => ((R.out.below p.h).cells (k := k) (by rw [Hlen.out]; omega)).2.1
      have f_2 := fun p : BelW wr.heap.size wr => ((R.out.below p.h).cells (k := k) (by rw [Hlen.out]; omega)).2.2.1
      have f_3 := fun p : BelW wr.heap.size wr => ((R.out.below p.h).cells (k := k) (by rw [Hlen.out]; omega)).2.2.2.1
      have f_4 := fun p : BelW wr.heap.size wr => ((R.out.below p.h).cells (k := k) (by rw [Hlen.out]; omega)).2.2.2.2.1
      have f_5 := fun p : BelW wr.heap.size wr => ((R.out.below p.h).cells (k := k) (by rw [Hlen.out]; omega)).2.2.2.2.2.1
      have f_6 := fun p : BelW wr.heap.size wr => ((R.out.below p.h).cells (k := k) (by rw [Hlen.out]; omega)).2.2.2.2.2.2.1
      have f_7 := fun p : BelW wr.heap.size wr => ((R.out.below p.h).cells (k := k) (by rw [Hlen.out]; omega)).2.2.2.2.2.2.2.1
      have f_8 := fun p : BelW wr.heap.size wr => ((R.out.below p.h).cells (k := k) (by rw [Hlen.out]; omega)).2.2.2.2.2.2.2.2.1
      have f_9 := fun p : BelW wr.heap.size wr => ((R.out.below p.h).cells (k := k) (by rw [Hlen.out]; omega)).2.2.2.2.2.2.2.2.2
      have y0 : ∀ p : BelW wr.heap.size wr, p.w'.cell? ⟨w.heap.size, 0, none⟩ = some (.int .i64 f0) := fun p => (X.out.below X.out.under p.h).cell 0 rfl
      have y1 : ∀ p : BelW wr.heap.size wr, p.w'.cell? ⟨w.heap.size, 1, none⟩ = some (.int .i64 g1) := fun p => (X.out.below X.out.under p.h).cell 1 rfl
      have y2 : ∀ p : BelW wr.heap.size wr, p.w'.cell? ⟨w.heap.size, 2, none⟩ = some (.slice af nf cf) := fun p => (X.out.below X.out.under p.h).cell 2 rfl
      have y3 : ∀ p : BelW wr.heap.size wr, p.w'.cell? ⟨w.heap.size, 3, none⟩ = some (.int .i64 fs) := fun p => (X.out.below X.out.under p.h).cell 3 rfl
      have y4 : ∀ p : BelW wr.heap.size wr, p.w'.cell? ⟨w.heap.size, 4, none⟩ = some (.int .i64 fd) := fun p => (X.out.below X.out.under p.h).cell 4 rfl
      have y5 : ∀ p : BelW wr.heap.size wr, p.w'.cell? ⟨w.heap.size, 5, none⟩ = some (.int .i64 fp) := fun p => (X.out.below X.out.under p.h).cell 5 rfl
      have y6 : ∀ p : BelW wr.heap.size wr, p.w'.cell? ⟨w.heap.size, 6, none⟩ = some (.int .i64 sp) := fun p => (X.out.below X.out.under p.h).cell 6 rfl
      have y7 : ∀ p : BelW wr.heap.size wr, p.w'.cell? ⟨w.heap.size, 7, none⟩ = some (.int .i64 dp) := fun p => (X.out.below X.out.under p.h).cell 7 rfl
      have y8 : ∀ p : BelW wr.heap.size wr, p.w'.cell? ⟨w.heap.size, 8, none⟩ = some (.int .i64 mk) := fun p => (X.out.below X.out.under p.h).cell 8 rfl
      have y9 : ∀ p : BelW wr.heap.size wr, p.w'.cell? ⟨w.heap.size, 9, none⟩ = some (.int .i64 sm) := fun p => (X.out.below X.out.under p.h).cell 9 rfl
      have y10 : ∀ p : BelW wr.heap.size wr, p.w'.cell? ⟨w.heap.size, 10, none⟩ = some (.string fb) := fun p => (X.out.below X.out.under p.h).cell 10 rfl
      generalize hhit : (ruAt l k).hits _ = hit at C HS1
      clear hhit
      cases hit
      · have HS : Hid (bestStep l ⟨f0, g1, ft, fs, fd, fp, sp, dp, mk, sm, fb⟩ (bestK l ⟨f0, g1, ft, fs, fd, fp, sp, dp, mk, sm, fb⟩ k) k = b) := by
          show _ = _
          rw [Hbk.out, HS1]; rfl
        clear HS1
        generalize ruAt l k = r at C f_0 f_1 f_2 f_3 f_4 f_5 f_6 f_7 f_8 f_9
        have C' : Hid _ := C
        clear C
        go_wp2
        refine region_below wr.heap.size (by kernel_rfl) (by kernel_rfl) ?_
        repeat (go_big_quiet_step ((go_at_call 44; refine quiet_below (Nat.le_refl _) (C'.out _))))
        refine wpQuiet_nil ?_
        intro wq hx
        have hq := BelW.out hx
        have B : Hid (Below w.heap.size w wq ∧ Boxed wq w.heap.size #[.int .i64 f0, .int .i64 g1, .slice af nf cf, .int .i64 fs, .int .i64 fd, .int .i64 fp, .int .i64 sp, .int .i64 dp, .int .i64 mk, .int .i64 sm, .string fb] 27) := ⟨hb.out.1.trans (hq.mono hb.out.1.size), X.out.below X.out.under hq⟩
        clear hx hq f_0 f_1 f_2 f_3 f_4 f_5 f_6 f_7 f_8 f_9 y0 y1 y2 y3 y4 y5 y6 y7 y8 y9 y10
        go_wp2
        go_roundw
        case rel => exact ⟨k + 1, b, by omega, rfl, by go_num, by rw [bestK_succ, HS.out], by omega, by omega, B⟩
        case measure => simp [intOf]; omega
      · by_cases hbn : b < 0
        · have HS : Hid (bestStep l ⟨f0, g1, ft, fs, fd, fp, sp, dp, mk, sm, fb⟩ (bestK l ⟨f0, g1, ft, fs, fd, fp, sp, dp, mk, sm, fb⟩ k) k = k) := by
            show _ = _
            rw [Hbk.out, HS1, decide_eq_true hbn]; rfl
          clear HS1
          generalize ruAt l k = r at C f_0 f_1 f_2 f_3 f_4 f_5 f_6 f_7 f_8 f_9
          have C' : Hid _ := C
          clear C
          go_wp2
          refine region_below wr.heap.size (by kernel_rfl) (by kernel_rfl) ?_
          repeat (go_big_quiet_step ((go_at_call 44; refine quiet_below (Nat.le_refl _) (C'.out _))))
          refine wpQuiet_nil ?_
          intro wq hx
          have hq := BelW.out hx
          have B : Hid (Below w.heap.size w wq ∧ Boxed wq w.heap.size #[.int .i64 f0, .int .i64 g1, .slice af nf cf, .int .i64 fs, .int .i64 fd, .int .i64 fp, .int .i64 sp, .int .i64 dp, .int .i64 mk, .int .i64 sm, .string fb] 27) := ⟨hb.out.1.trans (hq.mono hb.out.1.size), X.out.below X.out.under hq⟩
          clear hx hq f_0 f_1 f_2 f_3 f_4 f_5 f_6 f_7 f_8 f_9 y0 y1 y2 y3 y4 y5 y6 y7 y8 y9 y10
          go_wp2
          go_roundw
          case rel => exact ⟨k + 1, (k : Int), by omega, rfl, by go_num, by rw [bestK_succ, HS.out], by omega, by omega, B⟩
          case measure => simp [intOf]; omega
        · obtain ⟨m, rfl⟩ := Int.eq_ofNat_of_zero_le (show 0 ≤ b by omega)
          have D := fun w => (specAhead (ruAt l k) (ruAt l m) w).mono fun e w' (q : e = .returned (.bool ((ruAt l k).ahead (ruAt l m))) ∧ w' = _) => (⟨q.1, by rw [q.2]; exact ((Below.refl _ _).alloc (Nat.le_refl _) _).alloc (by simp) _⟩ : e = .returned (.bool ((ruAt l k).ahead (ruAt l m))) ∧ Below w.heap.size w w')
          have HS2 : bestStep l ⟨f0, g1, ft, fs, fd, fp, sp, dp, mk, sm, fb⟩ (m : Int) k = if ((ruAt l k).ahead (ruAt l m)) = true then (k : Int) else (m : Int) := by rw [HS1, decide_eq_false hbn]; rfl
          have hm1 : (m : Int) < (len : Int) := by omega
          have hm2 : decide ((m : Int) < 0) = false := decide_eq_false (by omega)
          clear HS1 hbn
          have m_0 := fun p : BelW wr.heap.size wr => ((R.out.below p.h).cells (k := m) (by rw [Hlen.out]; omega)).1
          have m_1 := fun p : BelW wr.heap.size wr => ((R.out.below p.h).cells (k := m) (by rw [Hlen.out]; omega)).2.1
          have m_2 := fun p : BelW wr.heap.size wr => ((R.out.below p.h).cells (k := m) (by rw [Hlen.out]; omega)).2.2.1
          have m_3 := fun p : BelW wr.heap.size wr => ((R.out.below p.h).cells (k := m) (by rw [Hlen.out]; omega)).2.2.2.1
          have m_4 := fun p : BelW wr.heap.size wr => ((R.out.below p.h).cells (k := m) (by rw [Hlen.out]; omega)).2.2.2.2.1
          have m_5 := fun p : BelW wr.heap.size wr => ((R.out.below p.h).cells (k := m) (by rw [Hlen.out]; omega)).2.2.2.2.2.1
          have m_6 := fun p : BelW wr.heap.size wr => ((R.out.below p.h).cells (k := m) (by rw [Hlen.out]; omega)).2.2.2.2.2.2.1
          have m_7 := fun p : BelW wr.heap.size wr => ((R.out.below p.h).cells (k := m) (by rw [Hlen.out]; omega)).2.2.2.2.2.2.2.1
          have m_8 := fun p : BelW wr.heap.size wr => ((R.out.below p.h).cells (k := m) (by rw [Hlen.out]; omega)).2.2.2.2.2.2.2.2.1
          have m_9 := fun p : BelW wr.heap.size wr => ((R.out.below p.h).cells (k := m) (by rw [Hlen.out]; omega)).2.2.2.2.2.2.2.2.2
          unfold Ru.val at D
          generalize hah : (ruAt l k).ahead (ruAt l m) = ah at D HS2
          clear hah
          generalize ruAt l m = r2 at D m_0 m_1 m_2 m_3 m_4 m_5 m_6 m_7 m_8 m_9
          generalize ruAt l k = r at C D f_0 f_1 f_2 f_3 f_4 f_5 f_6 f_7 f_8 f_9
          have C' : Hid _ := C
          have D' : Hid _ := D
          clear C D
          cases ah
          · have HS : Hid (bestStep l ⟨f0, g1, ft, fs, fd, fp, sp, dp, mk, sm, fb⟩ (bestK l ⟨f0, g1, ft, fs, fd, fp, sp, dp, mk, sm, fb⟩ k) k = m) := by
              show _ = _
              rw [Hbk.out, HS2]; rfl
            clear HS2
            go_wp2
            refine region_below wr.heap.size (by kernel_rfl) (by kernel_rfl) ?_
            repeat (go_big_quiet_step ((first | (go_at_call 44; refine quiet_below (Nat.le_refl _) (C'.out _)) | (go_at_call 57; refine quiet_below (Nat.le_refl _) (D'.out _)))))
            refine wpQuiet_nil ?_
            intro wq hx
            have hq := BelW.out hx
            have B : Hid (Below w.heap.size w wq ∧ Boxed wq w.heap.size #[.int .i64 f0, .int .i64 g1, .slice af nf cf, .int .i64 fs, .int .i64 fd, .int .i64 fp, .int .i64 sp, .int .i64 dp, .int .i64 mk, .int .i64 sm, .string fb] 27) := ⟨hb.out.1.trans (hq.mono hb.out.1.size), X.out.below X.out.under hq⟩
            clear hx hq f_0 f_1 f_2 f_3 f_4 f_5 f_6 f_7 f_8 f_9 m_0 m_1 m_2 m_3 m_4 m_5 m_6 m_7 m_8 m_9 y0 y1 y2 y3 y4 y5 y6 y7 y8 y9 y10
            go_wp2
            go_roundw
            case rel => exact ⟨k + 1, (m : Int), by omega, rfl, by go_num, by rw [bestK_succ, HS.out], by omega, by omega, B⟩
            case measure => simp [intOf]; omega
          · have HS : Hid (bestStep l ⟨f0, g1, ft, fs, fd, fp, sp, dp, mk, sm, fb⟩ (bestK l ⟨f0, g1, ft, fs, fd, fp, sp, dp, mk, sm, fb⟩ k) k = k) := by
              show _ = _
              rw [Hbk.out, HS2]; rfl
            clear HS2
            go_wp2
            refine region_below wr.heap.size (by kernel_rfl) (by kernel_rfl) ?_
            repeat (go_big_quiet_step ((first | (go_at_call 44; refine quiet_below (Nat.le_refl _) (C'.out _)) | (go_at_call 57; refine quiet_below (Nat.le_refl _) (D'.out _)))))
            refine wpQuiet_nil ?_
            intro wq hx
            have hq := BelW.out hx
            have B : Hid (Below w.heap.size w wq ∧ Boxed wq w.heap.size #[.int .i64 f0, .int .i64 g1, .slice af nf cf, .int .i64 fs, .int .i64 fd, .int .i64 fp, .int .i64 sp, .int .i64 dp, .int .i64 mk, .int .i64 sm, .string fb] 27) := ⟨hb.out.1.trans (hq.mono hb.out.1.size), X.out.below X.out.under hq⟩
            clear hx hq f_0 f_1 f_2 f_3 f_4 f_5 f_6 f_7 f_8 f_9 m_0 m_1 m_2 m_3 m_4 m_5 m_6 m_7 m_8 m_9 y0 y1 y2 y3 y4 y5 y6 y7 y8 y9 y10
            go_wp2
            go_roundw
            case rel => exact ⟨k + 1, (k : Int), by omega, rfl, by go_num, by rw [bestK_succ, HS.out], by omega, by omega, B⟩
            case measure => simp [intOf]; omega
    · obtain rfl : k = len := by omega
      have Hres : Hid (res = if b < 0 then 0 else (ruAt l b.toNat).cls) := by show res = _; rw [Hv.out, Hbk.out]
      by_cases hbn : b < 0
      · have e : Hid (res = 0) := by show res = 0; rw [Hres.out, if_pos hbn]
        go_wp2
        go_ret
        exact ⟨by rw [e.out]; rfl, hb.out.1⟩
      · obtain ⟨m, rfl⟩ := Int.eq_ofNat_of_zero_le (show 0 ≤ b by omega)
        have e : Hid (res = (ruAt l m).cls) := by show res = _; rw [Hres.out, if_neg hbn]; rfl
        have R : Hid (RusAt wr a0 l) := h.out.below hb.out.1
        obtain ⟨a1, o1, ha1, hb1, -⟩ := R.out m (by rw [Hlen.out]; omega)
        subst ha1
        have c9 := (R.out.cells (k := m) (by rw [Hlen.out]; omega)).2.2.2.2.2.2.2.2.2
        generalize ruAt l m = r at c9 e
        go_wp2
        go_ret
        exact ⟨by rw [e.out]; rfl, hb.out.1⟩
end Go.Proofs.Ytdifegaokdoleaa

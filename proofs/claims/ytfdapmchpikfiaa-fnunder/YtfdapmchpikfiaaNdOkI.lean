/-
  The walks of the program's upOk and TreeOk. By the verifier.
-/
import Derived.Test.YtfdapmchpikfiaaNdFn
import Derived.Test.YtfdapmchpikfiaaM6PlaceI
import Derived.Test.YtfdapmchpikfiaaPzImpl
import Derived.Test.YtfdapmchpikfiaaQuiet
import Derived.Test.YtfdapmchpikfiaaM1DrawCur
import Derived.Test.YtfdapmchpikfiaaStepRow
import Derived.BigQuiet
import Derived.WalkKit
import Derived.WalkSpells
import Derived.WalkLawsBesides
import Derived.RegionTactic
namespace Go.Proofs.Ytfdapmchpikfiaa
open Go.RowKit

/-- Is the Up of a number right? -/
def upB (k : Nat) (up : Int) : Bool := if k = 0 then decide (up = -1) else (decide (0 ≤ up) && decide (up < (k : Int)))
theorem upB_in {k : Nat} {up : Int} (h : k ≠ 0) : inB 0 ((k : Int) - 1) up = upB k up := by
  unfold upB
  rw [if_neg h, Bool.eq_iff_iff, inB_true]
  simp only [Bool.and_eq_true, decide_eq_true_eq]
  omega
set_option maxHeartbeats 1600000 in
theorem implUpOk (k : Nat) (up : Int) (w : World) (hk : k ≤ 1048576) :
    Calls Try.prog 44 #[.int .i64 (k : Int), .int .i64 up] w fun e w' => e = .returned (.bool (upB k up)) ∧ Below w.heap.size w w' := by
  by_cases h0 : k = 0
  · subst h0
    have e0 : upB 0 up = decide (up = -1) := rfl
    rw [e0]
    by_cases h1 : up = -1
    · subst h1
      go_enter Try.func44, Try.ntmps44
      go_wp2
      go_ret
      exact ⟨rfl, Below.refl _ _⟩
    · have h1' : (up == -1) = false := by simpa using h1
      rw [decide_eq_false h1]
      go_enter Try.func44, Try.ntmps44
      go_wp2
      go_ret
      exact ⟨by first | rfl | simp [h1], Below.refl _ _⟩
  · have A := fun w => implPlace k up w hk
    rw [upB_in h0] at A
    generalize upB k up = y at A ⊢
    have A' : Hid _ := A
    clear A
    have h0' : ¬ (k : Int) = 0 := by omega
    go_enter Try.func44, Try.ntmps44
    go_wp2_with fail
    refine (A'.out _).mono ?_
    rintro e w' ⟨rfl, rfl⟩
    go_wp2
    go_ret
    exact ⟨rfl, (Below.refl _ _).alloc (Nat.le_refl _) _⟩

set_option maxHeartbeats 3200000 in
set_option maxRecDepth 100000 in
theorem implTreeOk (l : List Nd) (a : Option Addr) (cap : Nat) (w : World) (hT : l.length ≤ 1048576) (_hc : l.length ≤ cap) (_hcn : a = none → cap = 0) (h : Hid (NdsAt w a l)) :
    Calls Try.prog 17 #[.slice a l.length cap] w fun e w' => e = .returned (.bool (tok l)) ∧ Below w.heap.size w w' := by
  obtain ⟨R, hR⟩ : ∃ R, tok l = R := ⟨_, rfl⟩
  have Yes : Hid (inB 1 12 (l.length : Int) = true → (∀ k, k < l.length → treeB l k = true) → R = true) := fun h1 h3 => by rw [← hR]; rw [inB_true] at h1; exact tok_iff.2 ⟨by omega, by omega, h3⟩
  have No : Hid (∀ k, k < l.length → treeB l k = false → R = false) := fun k hk hn => by
    rw [← hR]
    cases hq : tok l with
    | false => rfl
    | true => rw [(tok_iff.1 hq).2.2 k hk] at hn; cases hn
  have No6 : Hid (inB 1 12 (l.length : Int) = false → R = false) := fun hn => by
    rw [← hR]
    rw [inB_false] at hn
    cases hq : tok l with
    | false => rfl
    | true => have := (tok_iff.1 hq); omega
  have A0 := fun B w hh => implFromOne 12 (l.length : Int) B w hh
  rw [hR]
  clear hR _hc _hcn
  have Hpos : Hid (inB 1 12 (l.length : Int) = true → l.length ≤ 12) := fun h => by rw [inB_true] at h; omega
  generalize inB 1 12 (l.length : Int) = b0 at A0 Yes No6 Hpos
  obtain ⟨len, hlen⟩ : ∃ n, l.length = n := ⟨_, rfl⟩
  rw [hlen] at hT Yes No A0 Hpos ⊢
  have Hlen : Hid (l.length = len) := hlen
  have A0' : Hid _ := A0
  clear hlen A0
  go_enter Try.func17, Try.ntmps17
  go_wp2_with fail
  refine (A0'.out _ _ (by simp)).mono ?_
  rintro e w1 ⟨rfl, hw1⟩
  have B1 : Hid (Below w.heap.size w w1) := by show Below _ _ _; rw [hw1]; exact (Below.refl _ _).alloc (Nat.le_refl _) _
  clear hw1 A0'
  cases b0
  · have e : R = false := No6.out rfl
    subst e
    go_wp2
    go_ret
    exact ⟨rfl, B1.out⟩
  have h12 := Hpos.out rfl
  go_wp2
  go_loopw [12] (fun s wr => ∃ k : Nat, k ≤ len ∧ s = .int .i64 k ∧ Hid ((∀ j, j < k → treeB l j = true) ∧ Below w.heap.size w wr)) (fun s _ => len - (intOf s).toNat)
  case atStart => exact ⟨0, Nat.zero_le _, rfl, fun j hj => by omega, B1.out⟩
  case round =>
    obtain ⟨k, hk, rfl, HK⟩ := hrel
    clear B1
    by_cases hlt : k < len
    case neg =>
      obtain rfl : k = len := by omega
      have e : R = true := Yes.out (by first | exact trivial | exact rfl) HK.out.1
      subst e
      go_wp2
      go_ret
      exact ⟨rfl, HK.out.2⟩
    have hlt' : (k : Int) < (len : Int) := by omega
    have Lie : Hid (NdsAt wr a l) := h.out.below HK.out.2
    obtain ⟨b1, o1, ha1, hb1, -⟩ := Lie.out k (by rw [Hlen.out]; exact hlt)
    subst ha1
    obtain ⟨c0, c1, c2, c3, c4⟩ := Lie.out.cells (k := k) (by rw [Hlen.out]; exact hlt)
    have e4 := (Lie.out.cells (k := 0) (by rw [Hlen.out]; omega)).2.2.2.2
    have A1 := fun w => implPurseOk (ndAt l k).pz w
    have A2 := fun w => implUpOk k (ndAt l k).up w (by omega)
    have Gd : Hid (treeB l k = ((ndAt l k).pz.ok && (decide ((ndAt l k).pz.tm = (ndAt l 0).pz.tm) && upB k (ndAt l k).up))) := rfl
    have Nk := No.out k hlt
    have Yk : Hid (treeB l k = true → ∀ j, j < k + 1 → treeB l j = true) := fun hg j hj => by
      by_cases e : j = k
      · rw [e]; exact hg
      · exact HK.out.1 j (by omega)
    generalize treeB l k = good at Gd Nk Yk
    generalize (ndAt l 0).pz.tm = t0 at e4 Gd
    generalize (ndAt l k).pz.ok = ok at A1 Gd
    generalize upB k (ndAt l k).up = ub at A2 Gd
    generalize ndAt l k = x at c0 c1 c2 c3 c4 A1 A2 Gd
    obtain ⟨x0, x1, x2, x3, x4⟩ := x
    simp only [Pz.val] at c0 c1 c2 c3 c4 A1 A2 Gd
    have A1' : Hid _ := A1
    have A2' : Hid _ := A2
    have HN : Hid (good = false → R = false) := Nk
    have Bw : Hid (Below w.heap.size w wr) := HK.out.2
    clear A1 A2 Nk
    obtain ⟨g, hg⟩ : ∃ g, g = wr.heap.size := ⟨_, rfl⟩
    have N : Hid (Boxed (wr.alloc (.cells #[.int .i64 0, .int .i64 0, .int .i64 0, .int .i64 0, .int .i64 0] 40)) wr.heap.size #[.int .i64 0, .int .i64 0, .int .i64 0, .int .i64 0, .int .i64 0] 40) := Boxed.new _ _ _
    have X : Hid (Boxed ((wr.alloc (.cells #[.int .i64 0, .int .i64 0, .int .i64 0, .int .i64 0, .int .i64 0] 40)).setRow wr.heap.size #[.int .i64 x0, .int .i64 x1, .int .i64 x2, .int .i64 x3, .int .i64 x4]) wr.heap.size #[.int .i64 x0, .int .i64 x1, .int .i64 x2, .int .i64 x3, .int .i64 x4] 40 ∧ Below wr.heap.size wr ((wr.alloc (.cells #[.int .i64 0, .int .i64 0, .int .i64 0, .int .i64 0, .int .i64 0] 40)).setRow wr.heap.size #[.int .i64 x0, .int .i64 x1, .int .i64 x2, .int .i64 x3, .int .i64 x4])) := ⟨setRow_heap _ _ _ _ _ _ (Boxed.new _ _ _), below_setRow ((Below.refl _ _).alloc (Nat.le_refl _) _) (Nat.le_refl _) _⟩
    go_upto_region 6 with (refine wpList_store_row rfl 40 (.tmp _) (.tmp _) rfl wr.heap.size #[.int .i64 x0, .int .i64 x1, .int .i64 x2, .int .i64 x3, .int .i64 x4] rfl rfl _ _ N.out (by kernel_rfl) rfl (ndOnes _ _ _ _ _) ?_)
    clear c0 c1 c2 c3 c4 N
    simp only [Act.put]
    generalize (wr.alloc (.cells #[.int .i64 0, .int .i64 0, .int .i64 0, .int .i64 0, .int .i64 0] 40)).setRow wr.heap.size #[.int .i64 x0, .int .i64 x1, .int .i64 x2, .int .i64 x3, .int .i64 x4] = wx at X ⊢
    rw [← hg] at X ⊢
    have d0 : ∀ p : BelW wx.heap.size wx, p.w'.cell? ⟨g, 0, none⟩ = some (.int .i64 x0) := fun p => (X.out.1.below X.out.1.under p.h).cell 0 rfl
    have d1 : ∀ p : BelW wx.heap.size wx, p.w'.cell? ⟨g, 1, none⟩ = some (.int .i64 x1) := fun p => (X.out.1.below X.out.1.under p.h).cell 1 rfl
    have d2 : ∀ p : BelW wx.heap.size wx, p.w'.cell? ⟨g, 2, none⟩ = some (.int .i64 x2) := fun p => (X.out.1.below X.out.1.under p.h).cell 2 rfl
    have d3 : ∀ p : BelW wx.heap.size wx, p.w'.cell? ⟨g, 3, none⟩ = some (.int .i64 x3) := fun p => (X.out.1.below X.out.1.under p.h).cell 3 rfl
    have d4 : ∀ p : BelW wx.heap.size wx, p.w'.cell? ⟨g, 4, none⟩ = some (.int .i64 x4) := fun p => (X.out.1.below X.out.1.under p.h).cell 4 rfl
    have hbl : Hid (b1 < wr.heap.size) := hb1
    have f4 : ∀ p : BelW wx.heap.size wx, p.w'.cell? ⟨b1, o1 + 4, none⟩ = some (.int .i64 t0) := fun p => by
      have hX : Below wr.heap.size wr wx := by rw [← hg]; exact X.out.2
      rw [(hX.trans (p.h.mono hX.size)).cell (p := ⟨b1, o1 + 4, none⟩) hbl.out]
      simpa using e4
    have step : Hid (∀ w2, Below wx.heap.size wx w2 → Below w.heap.size w w2) := fun w2 q => by
      have hX : Below wr.heap.size wr wx := by rw [← hg]; exact X.out.2
      exact Bw.out.trans ((hX.trans (q.mono hX.size)).mono Bw.out.size)
    clear hg HK Lie e4 hb1 X Bw
    haveI : Nonempty (BelW wx.heap.size wx) := ⟨⟨wx, Below.refl _ _⟩⟩
    cases ub
    · have e : R = false := HN.out (by rw [Gd.out]; simp)
      subst e
      clear Gd Yk HN
      refine region_below wx.heap.size (by kernel_rfl) (by kernel_rfl) ?_
      repeat (go_big_quiet_step ((first | (go_at_call 45; with_reducible refine quiet_below (Nat.le_refl _) (A1'.out _)) | (go_at_call 44; with_reducible refine quiet_below (Nat.le_refl _) (A2'.out _)))))
      refine wpQuiet_nil ?_
      intro w2 hx
      have B2 : Hid (Below w.heap.size w w2) := step.out w2 (BelW.out hx)
      clear hx d0 d1 d2 d3 d4 f4
      go_wp2
      go_ret
      exact ⟨rfl, B2.out⟩
    cases ok
    · have e : R = false := HN.out (by rw [Gd.out]; rfl)
      subst e
      clear Gd Yk HN
      refine region_below wx.heap.size (by kernel_rfl) (by kernel_rfl) ?_
      repeat (go_big_quiet_step ((first | (go_at_call 45; with_reducible refine quiet_below (Nat.le_refl _) (A1'.out _)) | (go_at_call 44; with_reducible refine quiet_below (Nat.le_refl _) (A2'.out _)))))
      refine wpQuiet_nil ?_
      intro w2 hx
      have B2 : Hid (Below w.heap.size w w2) := step.out w2 (BelW.out hx)
      clear hx d0 d1 d2 d3 d4 f4
      go_wp2
      go_ret
      exact ⟨rfl, B2.out⟩
    by_cases ht : x4 = t0
    case neg =>
      have ht' : (x4 != t0) = true := by simpa using ht
      have e : R = false := HN.out (by rw [Gd.out]; simp [ht])
      subst e
      clear Gd Yk HN
      refine region_below wx.heap.size (by kernel_rfl) (by kernel_rfl) ?_
      repeat (go_big_quiet_step ((first | (go_at_call 45; with_reducible refine quiet_below (Nat.le_refl _) (A1'.out _)) | (go_at_call 44; with_reducible refine quiet_below (Nat.le_refl _) (A2'.out _)))))
      refine wpQuiet_nil ?_
      intro w2 hx
      have B2 : Hid (Below w.heap.size w w2) := step.out w2 (BelW.out hx)
      clear hx d0 d1 d2 d3 d4 f4
      go_wp2
      go_ret
      exact ⟨rfl, B2.out⟩
    subst ht
    have G : Hid (∀ j, j < k + 1 → treeB l j = true) := Yk.out (by rw [Gd.out]; simp)
    clear Gd Yk HN
    refine region_below wx.heap.size (by kernel_rfl) (by kernel_rfl) ?_
    repeat (go_big_quiet_step ((first | (go_at_call 45; with_reducible refine quiet_below (Nat.le_refl _) (A1'.out _)) | (go_at_call 44; with_reducible refine quiet_below (Nat.le_refl _) (A2'.out _)))))
    refine wpQuiet_nil ?_
    intro w2 hx
    have B2 : Hid (Below w.heap.size w w2) := step.out w2 (BelW.out hx)
    clear hx d0 d1 d2 d3 d4 f4
    go_wp2
    go_roundw
    case rel => exact ⟨k + 1, by omega, by go_num, G.out, B2.out⟩
    case measure => simp [intOf]; omega
end Go.Proofs.Ytfdapmchpikfiaa

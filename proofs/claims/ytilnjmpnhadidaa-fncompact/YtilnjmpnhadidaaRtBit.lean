/-
  The walks of bitAt, of slices.IndexFunc at the program's own closure, and of firstWithBit. By the verifier.
-/
import Derived.Test.YtilnjmpnhadidaaM2
import Derived.Test.YtilnjmpnhadidaaM1
import Derived.Test.YtilnjmpnhadidaaQuiet
import Derived.Shelf.Abstract
namespace Go.Proofs.Ytilnjmpnhadidaa
open Go.RowKit

theorem implBit {n : Int} (n0 : 0 ≤ n) (n1 : n ≤ 4294967295) (d : Nat) (hd : d ≤ 31) (w : World) :
    Calls Try.prog 71 #[.int .i64 n, .int .i64 (d : Int)] w fun e w' => e = .returned (.int .i64 (bitV n d)) ∧ w' = w := by
  have q0 : 0 ≤ n / 2 ^ (31 - d) := Int.ediv_nonneg n0 (Int.le_of_lt (pow_pos' _))
  have q1 : n / 2 ^ (31 - d) ≤ n := Int.ediv_le_self _ n0
  have hm := and_mask (s := 1) (by omega) q0 (by omega)
  have e1 : (2 : Int) ^ 1 - 1 = 1 := by decide
  have e2 : (2 : Int) ^ 1 = 2 := by decide
  rw [e1, e2] at hm
  have hv : Hid (bitV n d = n / 2 ^ (31 - d) % 2) := rfl
  clear e1 e2
  go_enter Try.func71, Try.ntmps71
  go_wp2
  go_ret
  exact ⟨by first | rfl | (rw [hv.out]; rfl), rfl⟩

/-- The program's closure: is the bit at a depth 1? -/
theorem implIsOne (r : Rt) (hr : 0 ≤ r.net ∧ r.net ≤ 4294967295) (d : Nat) (hd : d ≤ 31) (B : Nat) (w : World) (hB : B < w.heap.size) (hc : w.cell? ⟨B, 0, none⟩ = some (.int .i64 (d : Int))) :
    Calls Try.prog 90 #[r.val, .pointer (some ⟨B, 0, none⟩)] w fun e w' => e = .returned (.bool (bitV r.net d == 1)) ∧ Below w.heap.size w w' := by
  have C := fun w => implBit hr.1 hr.2 d hd w
  unfold Rt.val
  obtain ⟨net, bits, hop⟩ := r
  simp only [] at C hr ⊢
  generalize bitV net d = b at C ⊢
  have hne : B ≠ w.heap.size := by omega
  go_enter Try.func90, Try.ntmps90
  go_wp2_with (go_at_call 71; refine (C _).mono ?_; rintro e w' ⟨rfl, rfl⟩)
  go_ret
  exact ⟨rfl, (Below.refl _ _).alloc (Nat.le_refl _) _⟩

/-- Where the first with a bit 1 is. -/
def FirstOne (l : List Rt) (d : Nat) (k : Nat) : Prop := k ≤ l.length ∧ (∀ i, i < k → bitV (rtAt l i).net d = 0) ∧ (k < l.length → bitV (rtAt l k).net d = 1)

set_option maxHeartbeats 1600000 in
theorem implIndex (a : Option Addr) (cap : Nat) (l : List Rt) (d : Nat) (hd : d ≤ 31) (B : Nat) (w : World) (hT : l.length ≤ 64) (h : Hid (RtsAt w a l)) (hok : Hid (∀ k, k < l.length → 0 ≤ (rtAt l k).net ∧ (rtAt l k).net ≤ 4294967295)) (hB : B < w.heap.size) (hc : w.cell? ⟨B, 0, none⟩ = some (.int .i64 (d : Int))) :
    Calls Try.prog 52 #[.slice a l.length cap, .func (.func 90) #[] #[.pointer (some ⟨B, 0, none⟩)]] w fun e w' => (∃ k : Nat, FirstOne l d k ∧ e = .returned (.int .i64 (if k < l.length then (k : Int) else -1))) ∧ Below w.heap.size w w' := by
  have HB : Hid (B < w.heap.size ∧ w.cell? ⟨B, 0, none⟩ = some (.int .i64 (d : Int))) := ⟨hB, hc⟩
  clear hB hc
  have eg : ∀ args w, (callFunc 90 args).run Try.prog w = .ok (.enter 90 args) w := enters_of Try.func90 (by kernel_rfl) rfl
  obtain ⟨len, hlen⟩ : ∃ n, l.length = n := ⟨_, rfl⟩
  have Hlen : Hid (l.length = len) := hlen
  have HF : Hid (∀ k, FirstOne l d k ↔ (k ≤ len ∧ (∀ i, i < k → bitV (rtAt l i).net d = 0) ∧ (k < len → bitV (rtAt l k).net d = 1))) := by
    show ∀ k, FirstOne l d k ↔ _
    intro k; unfold FirstOne; rw [hlen]
  rw [hlen] at hT ⊢
  clear hlen
  go_enter Try.func52, Try.ntmps52
  go_wp2
  go_loopw [8] (fun i wr => ∃ k : Nat, k ≤ len ∧ i = .int .i64 k ∧ Hid ((∀ i, i < k → bitV (rtAt l i).net d = 0) ∧ Below w.heap.size w wr)) (fun i _ => len - (intOf i).toNat)
  case atStart => exact ⟨0, Nat.zero_le _, rfl, fun i hi => absurd hi (Nat.not_lt_zero _), Below.refl _ _⟩
  case round =>
    obtain ⟨k, hk, rfl, H1⟩ := hrel
    by_cases hlt : k < len
    · have R : Hid (RtsAt wr a l) := h.out.below H1.out.2
      obtain ⟨b1, o1, ha1, hb1, -⟩ := R.out k (by rw [Hlen.out]; exact hlt)
      subst ha1
      obtain ⟨c0, c1, c2⟩ := cells_at R.out (k := k) (by rw [Hlen.out]; exact hlt)
      have C := fun w hB hc => implIsOne (rtAt l k) (hok.out k (by rw [Hlen.out]; exact hlt)) d hd B w hB hc
      unfold Rt.val at C
      have HC := C wr (Nat.lt_of_lt_of_le HB.out.1 H1.out.2.size) (cell_of_below H1.out.2 HB.out.1 HB.out.2)
      obtain ⟨z, hz⟩ : ∃ z, bitV (rtAt l k).net d = z := ⟨_, rfl⟩
      have Hz : Hid _ := hz
      rw [hz] at HC
      have hz2 := bitV_in (rtAt l k).net d
      rw [hz] at hz2
      clear C hz
      have hlt' : (k : Int) < (len : Int) := by omega
      rcases hz2 with rfl | rfl
      · generalize rtAt l k = r at c0 c1 c2 HC
        go_wp2_with fail
        refine HC.mono ?_
        rintro e w' ⟨rfl, hb'⟩
        have B2 : Hid ((∀ i, i < k + 1 → bitV (rtAt l i).net d = 0) ∧ Below w.heap.size w w') := by
          refine ⟨fun i hi => ?_, H1.out.2.trans (hb'.mono H1.out.2.size)⟩
          by_cases e : i = k
          · rw [e]; exact Hz.out
          · exact H1.out.1 i (by omega)
        clear hb' H1 HC R
        go_wp2
        go_roundw
        case rel => exact ⟨k + 1, by omega, by go_num, B2⟩
        case measure => simp [intOf]; omega
      · generalize rtAt l k = r at c0 c1 c2 HC
        go_wp2_with fail
        refine HC.mono ?_
        rintro e w' ⟨rfl, hb'⟩
        have B2 : Hid (Below w.heap.size w w') := H1.out.2.trans (hb'.mono H1.out.2.size)
        have hF : Hid (FirstOne l d k) := (HF.out k).2 ⟨hk, H1.out.1, fun _ => Hz.out⟩
        clear hb' H1 HC R
        go_wp2
        go_ret
        exact ⟨⟨k, hF.out, by rw [if_pos hlt]; rfl⟩, B2.out⟩
    · obtain rfl : k = len := by omega
      have hF : Hid (FirstOne l d k) := (HF.out k).2 ⟨hk, H1.out.1, fun h => absurd h (Nat.lt_irrefl _)⟩
      go_wp2
      go_ret
      exact ⟨⟨k, hF.out, by rw [if_neg (Nat.lt_irrefl _)]; rfl⟩, H1.out.2⟩

set_option maxHeartbeats 800000 in
theorem implFirst (a : Option Addr) (cap : Nat) (l : List Rt) (d : Nat) (hd : d ≤ 31) (w : World) (hT : l.length ≤ 64) (h : Hid (RtsAt w a l)) (hok : Hid (∀ k, k < l.length → 0 ≤ (rtAt l k).net ∧ (rtAt l k).net ≤ 4294967295)) :
    Calls Try.prog 69 #[.slice a l.length cap, .int .i64 (d : Int)] w fun e w' => (∃ k : Nat, FirstOne l d k ∧ e = .returned (.int .i64 (k : Int))) ∧ Below w.heap.size w w' := by
  have hmf : ∀ (fn : Fn) (first cap : Array Value) (w : World), (Instr.makeFunc fn first cap).run Try.prog w = .ok (.func fn first cap) w := fun _ _ _ _ => rfl
  have C := implIndex a cap l d hd w.heap.size (w.alloc (.cells #[.int .i64 (d : Int)] 2)) hT (h.out.alloc _) hok (by simp) (by simp)
  have HF : Hid (∀ k, FirstOne l d k → k ≤ l.length) := fun k h => h.1
  generalize l.length = len at C hT HF ⊢
  go_enter Try.func69, Try.ntmps69
  go_wp2_with fail
  refine C.mono ?_
  rintro e w' ⟨⟨k, hF, rfl⟩, hb⟩
  have hkl := HF.out k hF
  have B : Hid (FirstOne l d k ∧ Below w.heap.size w w') := ⟨hF, ((Below.refl _ w).alloc (Nat.le_refl _) _).trans (hb.mono (by simp))⟩
  clear hF hb C
  by_cases hk : k < len
  · rw [if_pos hk]
    go_wp2
    go_ret
    exact ⟨⟨k, B.out.1, rfl⟩, B.out.2⟩
  · rw [if_neg hk]
    obtain rfl : k = len := by omega
    go_wp2
    go_ret
    exact ⟨⟨k, B.out.1, rfl⟩, B.out.2⟩
end Go.Proofs.Ytilnjmpnhadidaa

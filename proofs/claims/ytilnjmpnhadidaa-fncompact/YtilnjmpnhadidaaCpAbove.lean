/-
  The walks of the program's search among shorter places, and for a twin. By the verifier.
-/
import Derived.Test.YtilnjmpnhadidaaCpLay
namespace Go.Proofs.Ytilnjmpnhadidaa
open Go.RowKit Go.Maps

/-- The hop of the first that is there, one bit less each time. -/
def upN (g : Int → Int → Option Int) (net : Int) : Nat → Int
  | 0 => -1
  | k + 1 => match g (cutV net k) (k : Int) with
    | some h => h
    | none => upN g net k
theorem upN_none {g : Int → Int → Option Int} {net : Int} {k : Nat} (h : g (cutV net k) (k : Int) = none) : upN g net (k + 1) = upN g net k := by
  show (match g (cutV net k) (k : Int) with | some h => h | none => upN g net k) = _
  rw [h]
theorem upN_some {g : Int → Int → Option Int} {net z : Int} {k : Nat} (h : g (cutV net k) (k : Int) = some z) : upN g net (k + 1) = z := by
  show (match g (cutV net k) (k : Int) with | some h => h | none => upN g net k) = _
  rw [h]

set_option maxHeartbeats 1600000 in
theorem implAbove (b n : Nat) (g : Int → Int → Option Int) {net : Int} (n0 : 0 ≤ net) (n1 : net ≤ 4294967295) (K : Nat) (hK : K ≤ 32) (w : World) (hm : Hid (HMap w b n g)) :
    Calls Try.prog 63 #[.map (some b), pv (cutV net K) (K : Int)] w fun e w' => e = .returned (.int .i64 (upN g net K)) ∧ Below w.heap.size w w' := by
  unfold pv
  have C := fun k hk w => implUp n0 n1 (k := k) hk w
  unfold pv at C
  obtain ⟨B, hB⟩ : ∃ B, B = w.heap.size := ⟨_, rfl⟩
  have HB : Hid (B = w.heap.size) := hB
  have X0 : Hid (Boxed (w.alloc (.cells #[.int .i64 (cutV net K), .int .i64 (K : Int)] 67)) B #[.int .i64 (cutV net K), .int .i64 (K : Int)] 67 ∧ Below w.heap.size w (w.alloc (.cells #[.int .i64 (cutV net K), .int .i64 (K : Int)] 67))) := ⟨by rw [hB]; exact Boxed.new _ _ _, (Below.refl _ _).alloc (Nat.le_refl _) _⟩
  go_enter Try.func63, Try.ntmps63
  go_wp2
  rw [← hB]
  clear hB
  generalize w.alloc (.cells #[.int .i64 (cutV net K), .int .i64 (K : Int)] 67) = w0 at X0 ⊢
  go_loopw [7, 8, 9] (fun _ _ _ wr => ∃ k : Nat, Hid (k ≤ 32 ∧ Boxed wr B #[.int .i64 (cutV net k), .int .i64 (k : Int)] 67 ∧ Below w.heap.size w wr ∧ upN g net K = upN g net k)) (fun _ _ _ wr => (intOf ((wr.cell? ⟨B, 1, none⟩).getD undef)).toNat)
  case atStart => exact ⟨K, hK, X0.out.1, X0.out.2, rfl⟩
  case round =>
    obtain ⟨k, HR⟩ := hrel
    have c0 : wr.cell? ⟨B, 0, none⟩ = some (.int .i64 (cutV net k)) := HR.out.2.1.cell 0 rfl
    have c1 : wr.cell? ⟨B, 1, none⟩ = some (.int .i64 (k : Int)) := HR.out.2.1.cell 1 rfl
    cases k with
    | zero =>
      go_wp2
      go_ret
      exact ⟨by rw [HR.out.2.2.2]; rfl, HR.out.2.2.1⟩
    | succ k =>
      have hk32 : k < 32 := by have := HR.out.1; omega
      have hpos : (0 : Int) < ((k + 1 : Nat) : Int) := by omega
      have C' := C k hk32
      rw [show ((k + 1 : Nat) : Int) = (k : Int) + 1 by simp] at c1
      have hpos' : (0 : Int) < (k : Int) + 1 := by omega
      have hw1 := (cut_in n0 n1 k)
      go_wp2_with fail
      refine (C' _).mono ?_
      rintro e w4 ⟨rfl, b4⟩
      have X4 : Boxed w4 B #[.int .i64 (cutV net (k + 1)), .int .i64 ((k + 1 : Nat) : Int)] 67 := HR.out.2.1.below HR.out.2.1.under b4
      have B4 : Below w.heap.size w w4 := HR.out.2.2.1.trans (b4.mono HR.out.2.2.1.size)
      have X5 := (X4.put 0 (.int .i64 (cutV net k))).put 1 (.int .i64 (k : Int))
      have B5 : Below w.heap.size w ((w4.setCell ⟨B, 0, none⟩ (.int .i64 (cutV net k))).setCell ⟨B, 1, none⟩ (.int .i64 (k : Int))) := (B4.setCell (by show w.heap.size ≤ B; rw [HB.out]; exact Nat.le_refl _) _).setCell (by show w.heap.size ≤ B; rw [HB.out]; exact Nat.le_refl _) _
      have d0 : w4.cell? ⟨B, 0, none⟩ = some (.int .i64 (cutV net (k + 1))) := X4.cell 0 rfl
      have d1 : w4.cell? ⟨B, 1, none⟩ = some (.int .i64 ((k + 1 : Nat) : Int)) := X4.cell 1 rfl
      have i0 := X4.ice 0
      have i1 := X4.ice 1
      obtain ⟨v, hl, hv⟩ := (hm.out.kept (B5.block _ hm.out.lt)).look (x := cutV net k) (y := (k : Int)) (wf_of (by omega) (by omega)) (wf_of (by omega) (by omega))
      unfold pv at hl
      have f0 : ((w4.setCell ⟨B, 0, none⟩ (.int .i64 (cutV net k))).setCell ⟨B, 1, none⟩ (.int .i64 (k : Int))).cell? ⟨B, 0, none⟩ = some (.int .i64 (cutV net k)) := X5.cell 0 rfl
      have f1 : ((w4.setCell ⟨B, 0, none⟩ (.int .i64 (cutV net k))).setCell ⟨B, 1, none⟩ (.int .i64 (k : Int))).cell? ⟨B, 1, none⟩ = some (.int .i64 (k : Int)) := X5.cell 1 rfl
      have H5 : Hid (k ≤ 32 ∧ Boxed ((w4.setCell ⟨B, 0, none⟩ (.int .i64 (cutV net k))).setCell ⟨B, 1, none⟩ (.int .i64 (k : Int))) B #[.int .i64 (cutV net k), .int .i64 (k : Int)] 67 ∧ Below w.heap.size w ((w4.setCell ⟨B, 0, none⟩ (.int .i64 (cutV net k))).setCell ⟨B, 1, none⟩ (.int .i64 (k : Int))) ∧ upN g net K = upN g net (k + 1)) := ⟨by omega, X5, B5, HR.out.2.2.2⟩
      have Hc : Hid (wr.cell? ⟨B, 1, none⟩ = some (.int .i64 ((k : Int) + 1))) := c1
      clear X4 B4 X5 B5 b4 c0 c1 C'
      obtain ⟨w5, hw5⟩ : ∃ w5, (w4.setCell ⟨B, 0, none⟩ (.int .i64 (cutV net k))).setCell ⟨B, 1, none⟩ (.int .i64 (k : Int)) = w5 := ⟨_, rfl⟩
      rw [hw5] at hl f0 f1 H5
      cases hgk : g (cutV net k) (k : Int) with
      | none =>
        rw [hgk] at hl
        have HU : Hid (upN g net (k + 1) = upN g net k) := upN_none hgk
        clear hgk hv
        simp only [Option.isSome_none] at hl
        go_wp2
        go_roundw
        case rel => exact ⟨k, H5.out.1, H5.out.2.1, H5.out.2.2.1, H5.out.2.2.2.trans HU.out⟩
        case measure =>
          rw [Hc.out, H5.out.2.1.cell 1 rfl]
          simp [intOf]
      | some z =>
        obtain rfl := hv z hgk
        rw [hgk] at hl
        have HU : Hid (upN g net (k + 1) = v) := upN_some hgk
        clear hgk hv
        simp only [Option.isSome_some] at hl
        go_wp2
        go_ret
        exact ⟨by rw [H5.out.2.2.2, HU.out]; rfl, H5.out.2.2.1⟩

/-- Is there one with the last bit turned and the same hop? -/
def twinB (g : Int → Int → Option Int) (r : Rt) : Bool := decide (g (twinV r.net (32 - r.bits).toNat) r.bits = some r.hop)

set_option maxHeartbeats 1600000 in
theorem implTwinB (b n : Nat) (g : Int → Int → Option Int) (r : Rt) (hr : r.ok = true) (w : World) (hm : Hid (HMap w b n g)) :
    Calls Try.prog 53 #[.map (some b), r.val] w fun e w' => e = .returned (.bool (twinB g r)) ∧ Below w.heap.size w w' := by
  obtain ⟨p1, p2, p3, p4⟩ := ok_split hr
  have C := fun w => implPlace r w
  have D := fun w => implTwin (net := r.net) (b := r.bits) (s := (32 - r.bits).toNat) (by omega) (by omega) p2.1 p2.2 p3 w
  have ht : -9223372036854775808 ≤ twinV r.net (32 - r.bits).toNat ∧ twinV r.net (32 - r.bits).toNat ≤ 9223372036854775807 := by
    have q0 := pow_pos' (32 - r.bits).toNat
    have q1 := pow_le32 (s := (32 - r.bits).toNat) (by omega)
    unfold twinV
    split <;> omega
  unfold twinB
  generalize twinV r.net (32 - r.bits).toNat = t at D ht ⊢
  clear p3
  obtain ⟨net, bits, hop⟩ := r
  unfold Rt.val
  unfold Rt.val pv at C
  unfold pv at D
  simp only [] at *
  clear hr
  go_enter Try.func53, Try.ntmps53
  go_wp2_with fail
  refine (C _).mono ?_
  rintro e w4 ⟨rfl, b4⟩
  have B4 : Below w.heap.size w w4 := ((Below.refl _ w).alloc (Nat.le_refl _) _).trans (b4.mono (by simp))
  have X4 : Boxed w4 w.heap.size #[.int .i64 net, .int .i64 bits, .int .i64 hop] 53 := (Boxed.new w _ _).below (by simp) b4
  have H4 : Hid (Below w.heap.size w w4 ∧ Boxed w4 w.heap.size #[.int .i64 net, .int .i64 bits, .int .i64 hop] 53) := ⟨B4, X4⟩
  clear B4 X4 b4
  go_wp2_with fail
  refine (D _).mono ?_
  rintro e w5 ⟨rfl, b5⟩
  have B5 : Below w.heap.size w w5 := H4.out.1.trans (b5.mono H4.out.1.size)
  have X5 : Boxed w5 w.heap.size #[.int .i64 net, .int .i64 bits, .int .i64 hop] 53 := H4.out.2.below H4.out.2.under b5
  have c2 : w5.cell? ⟨w.heap.size, 2, none⟩ = some (.int .i64 hop) := X5.cell 2 rfl
  obtain ⟨v, hl, hv⟩ := (hm.out.kept (B5.block _ hm.out.lt)).look (x := t) (y := bits) (wf_of (by omega) (by omega)) (wf_of (by omega) (by omega))
  unfold pv at hl
  have H5 : Hid (Below w.heap.size w w5) := B5
  clear B5 X5 b5 H4 C D
  cases hgk : g t bits with
  | none =>
    rw [hgk] at hl
    simp only [Option.isSome_none] at hl
    have HG : Hid (g t bits = none) := hgk
    clear hgk hv
    go_wp2
    go_ret
    exact ⟨by simp [HG.out], H5.out⟩
  | some z =>
    obtain rfl := hv z hgk
    rw [hgk] at hl
    simp only [Option.isSome_some] at hl
    have HG : Hid (g t bits = some v) := hgk
    clear hgk hv
    go_wp2
    go_ret
    refine ⟨?_, H5.out⟩
    rw [HG.out]
    by_cases e : v = hop <;> simp [e]
end Go.Proofs.Ytilnjmpnhadidaa

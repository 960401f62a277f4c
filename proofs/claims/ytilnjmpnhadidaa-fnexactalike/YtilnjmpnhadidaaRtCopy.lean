/-
  The walks of the laws' copies of lists of routes, and of their sizes. By the verifier.
-/
import Derived.Test.YtilnjmpnhadidaaRtInfo
import Derived.Test.YtilnjmpnhadidaaRtEq
namespace Go.Proofs.Ytilnjmpnhadidaa
open Go.RowKit

set_option maxHeartbeats 1600000 in
theorem toLists (a : Option Addr) (cap : Nat) (l : List Rt) (w : World) (hT : l.length ≤ 1048576) (h : Hid (RtsAt w a l)) :
    Calls Try.prog 25 #[.slice a l.length cap] w fun e w' => ∃ g, e = .returned (.slice (some ⟨g, 0, none⟩) l.length l.length) ∧ RRow w.heap.size w' (.slice (some ⟨g, 0, none⟩) l.length l.length) l ∧ Below w.heap.size w w' := by
  obtain ⟨i0, hi, hz0, hz1, hz2⟩ := info_parts infoR
  obtain ⟨len, hlen⟩ : ∃ n, l.length = n := ⟨_, rfl⟩
  unfold RRow
  rw [hlen] at hT ⊢
  have Hlen : Hid (l.length = len) := hlen
  clear hlen
  have hmk : ∀ wx, (Instr.makeSlice 24 (.int .i64 (len : Int)) (.int .i64 (len : Int))).run Try.prog wx = .ok (.slice (some ⟨wx.heap.size, 0, none⟩) len len) (wx.alloc (.cells (madeCells #[.int .i64 0, .int .i64 0, .int .i64 0] (len * 3)) 53)) := by
    intro wx
    have := run_make (P := Try.prog) wx 24 53 i0 (.agg #[.int .i64 0, .int .i64 0, .int .i64 0]) Try.underlying24 hi hz0 .i64 .i64 len len (by omega) (by omega) (by rw [hz2]; omega) (by omega)
    rw [this, hz1]; simp [Value.cells]
  have H0 : Hid ((w.alloc (.cells (madeCells #[.int .i64 0, .int .i64 0, .int .i64 0] (len * 3)) 53)).ownsRow w.heap.size 53 3 (.slice (some ⟨w.heap.size, 0, none⟩) len len) len (rcells (l.take 0 ++ List.replicate (len - 0) ⟨0, 0, 0⟩))) := by
    have := World.ownsRow_lit (size := 3) (e := 53) (base := w.heap.size) w (madeCells #[.int .i64 0, .int .i64 0, .int .i64 0] (len * 3)) len (Nat.le_refl _) (by unfold maxLen; omega) (by rw [size_madeCells])
    rw [madeR] at this
    show World.ownsRow _ _ _ _ _ _ _
    simpa using this
  clear hi hz0 hz1 hz2
  go_enter Try.func25, Try.ntmps25
  go_wp2
  go_loopw [4] (fun i wr => ∃ k : Nat, k ≤ len ∧ i = .int .i64 k ∧ Hid (wr.ownsRow w.heap.size 53 3 (.slice (some ⟨w.heap.size, 0, none⟩) len len) len (rcells (l.take k ++ List.replicate (len - k) ⟨0, 0, 0⟩)) ∧ Below w.heap.size w wr)) (fun i _ => len - (intOf i).toNat)
  case atStart => exact ⟨0, Nat.zero_le _, rfl, H0.out, (Below.refl _ _).alloc (Nat.le_refl _) _⟩
  case round =>
    clear H0 hmk
    obtain ⟨k, hk, rfl, H1⟩ := hrel
    by_cases hlt : k < len
    · have R : Hid (RtsAt wr a l) := h.out.below H1.out.2
      obtain ⟨b1, o1, ha1, hb1, -⟩ := R.out k (by rw [Hlen.out]; exact hlt)
      subst ha1
      obtain ⟨c0, c1, c2⟩ := cells_at R.out (k := k) (by rw [Hlen.out]; exact hlt)
      have hts := take_set l len k Hlen.out hlt
      have T := fun w => toRoutesB (rtAt l k) w
      unfold Rt.val at T
      generalize rtAt l k = r at c0 c1 c2 hts T
      have Hts : Hid _ := hts
      clear hts
      go_wp2_with fail
      refine (T _).mono ?_
      rintro e w2 ⟨rfl, b2⟩
      have hsz : w.heap.size < wr.heap.size := (World.ownsRow.lt H1.out.1 _ rfl).2
      have H2 : Hid (w2.ownsRow w.heap.size 53 3 (.slice (some ⟨w.heap.size, 0, none⟩) len len) len (rcells (l.take k ++ List.replicate (len - k) ⟨0, 0, 0⟩)) ∧ Below w.heap.size w w2) := by
        refine ⟨?_, H1.out.2.trans (b2.mono H1.out.2.size)⟩
        have hh := H1.out.1
        refine ⟨hh.1, hh.2.imp id ?_⟩
        rintro ⟨g0, cp, cur, h1, h2, h3, h4⟩
        cases h1
        exact ⟨_, _, cur, rfl, h2, by rw [b2.block _ hsz]; exact h3, h4⟩
      have hL : (rcells (l.take k ++ List.replicate (len - k) ⟨0, 0, 0⟩)).length = len * 3 := by
        rw [rcells_length]; have := Hlen.out; simp; omega
      have ex : ∀ j, j < len * 3 → ∃ v, w2.cell? ⟨w.heap.size, j, none⟩ = some v := by
        intro j hj
        rw [H2.out.1.cellAt j hj]
        exact ⟨_, List.getElem?_eq_getElem (by omega)⟩
      obtain ⟨y0, hy0⟩ := ex (k * 3) (by omega)
      obtain ⟨y1, hy1⟩ := ex (k * 3 + 1) (by omega)
      obtain ⟨y2, hy2⟩ := ex (k * 3 + 2) (by omega)
      have z0 := H2.out.1.frozenAt (k * 3)
      have z1 := H2.out.1.frozenAt (k * 3 + 1)
      have z2 := H2.out.1.frozenAt (k * 3 + 2)
      have H3 : Hid (_ ∧ Below w.heap.size w (((w2.setCell ⟨w.heap.size, k * 3, none⟩ (.int .i64 r.net)).setCell ⟨w.heap.size, k * 3 + 1, none⟩ (.int .i64 r.bits)).setCell ⟨w.heap.size, k * 3 + 2, none⟩ (.int .i64 r.hop))) := ⟨RRow.put H2.out.1 k r, ((H2.out.2.setCell (Nat.le_refl _) _).setCell (Nat.le_refl _) _).setCell (Nat.le_refl _) _⟩
      clear b2 hL ex H1 R H2
      go_wp2

      go_roundw
      case rel => exact ⟨k + 1, by omega, by go_num, by rw [← Hts.out]; exact H3.out⟩
      case measure => simp [intOf]; omega
    · obtain rfl : k = len := by omega
      go_wp2
      go_ret
      refine ⟨_, rfl, ?_, H1.out.2⟩
      have hh := H1.out.1
      rw [Nat.sub_self, List.take_of_length_le (by rw [Hlen.out]; omega)] at hh
      simpa using hh

theorem szLists (a : Option Addr) (cap len : Nat) (w : World) (hl : (len : Int) ≤ 9223372036854775807) :
    Calls Try.prog 24 #[.slice a len cap, .int .i64 1048576] w fun e w' => e = .returned (.int .i64 (if (1048576 : Int) - len < 0 then -1 else (1048576 : Int) - len)) ∧ w' = w := by
  by_cases h : (1048576 : Int) - len < 0
  · rw [if_pos h]
    go_enter Try.func24, Try.ntmps24
    go_wp2
    go_ret
    exact ⟨rfl, rfl⟩
  · rw [if_neg h]
    go_enter Try.func24, Try.ntmps24
    go_wp2
    go_ret
    exact ⟨rfl, rfl⟩
end Go.Proofs.Ytilnjmpnhadidaa

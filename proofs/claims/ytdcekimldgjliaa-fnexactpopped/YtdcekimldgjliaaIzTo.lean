/-
  The walk of the laws' copy of a list of lists of records (Item). By the verifier, by program.
-/
import Derived.Test.YtdcekimldgjliaaIzCopy
import Derived.Test.YtdcekimldgjliaaIzBlk
namespace Go.Proofs.Ytdcekimldgjliaa
open Go.RowKit

set_option maxHeartbeats 3200000 in
set_option maxRecDepth 100000 in
theorem toIzs (a : Option Addr) (cap : Nat) (ls : List (List It)) (w : World) (hT : ls.length ≤ 1048576) (hin : Hid (∀ k, k < ls.length → (izAt ls k).length ≤ 1048576)) (h : Hid (IzAt w a ls)) :
    Calls Try.prog 29 #[.slice a ls.length cap] w fun e w' => ∃ g, e = .returned (.slice (some ⟨g, 0, none⟩) ls.length ls.length) ∧ IzIn w.heap.size w'.heap.size w' (.slice (some ⟨g, 0, none⟩) ls.length ls.length) ls ∧ Below w.heap.size w w' := by
  obtain ⟨i0, hi, hz0, hz1, hz2⟩ := info_parts izInfo
  obtain ⟨len, hlen⟩ : ∃ n, ls.length = n := ⟨_, rfl⟩
  rw [hlen] at hT ⊢
  have Hlen : Hid (ls.length = len) := hlen
  clear hlen
  have hmk : ∀ wx, (Instr.makeSlice 27 (.int .i64 (len : Int)) (.int .i64 (len : Int))).run Try.prog wx = .ok (.slice (some ⟨wx.heap.size, 0, none⟩) len len) (wx.alloc (.cells (madeCells #[.slice none 0 0] (len * 1)) 50)) := by
    intro wx
    have := run_make (P := Try.prog) wx 27 50 i0 (.slice none 0 0) Try.underlying27 hi hz0 .i64 .i64 len len (by omega) (by omega) (by rw [hz2]; omega) (by omega)
    rw [this, hz1]; simp [Value.cells]
  have H0 : Hid (IzB ls len w.heap.size 0 [] (w.alloc (.cells (madeCells #[.slice none 0 0] (len * 1)) 50))) := by
    have := World.ownsRow_lit (size := 1) (e := 50) (base := w.heap.size) w (madeCells #[.slice none 0 0] (len * 1)) len (Nat.le_refl _) (by unfold maxLen; omega) (by rw [size_madeCells])
    rw [izMade] at this
    exact ⟨by simpa using this, rfl, fun i hi => by omega, fun i hi => by omega, fun i j hi => by omega⟩
  clear hi hz0 hz1 hz2
  go_enter Try.func29, Try.ntmps29
  go_wp2
  go_loopw [4] (fun i wr => ∃ k : Nat, k ≤ len ∧ i = .int .i64 k ∧ Hid (∃ vs, IzB ls len w.heap.size k vs wr ∧ Below w.heap.size w wr)) (fun i _ => len - (intOf i).toNat)
  case atStart => exact ⟨0, Nat.zero_le _, rfl, [], by have := H0.out; rw [Nat.mul_one] at this; exact this, (Below.refl _ _).alloc (Nat.le_refl _) _⟩
  case round =>
    clear H0 hmk
    obtain ⟨k, hk, rfl, H1⟩ := hrel
    obtain ⟨vs, H1⟩ : ∃ vs, Hid (IzB ls len w.heap.size k vs wr ∧ Below w.heap.size w wr) := H1.out
    by_cases hlt : k < len
    · have R : Hid (IzAt wr a ls) := h.out.below H1.out.2
      obtain ⟨b1, o1, i1, c1, ha1, hb1, hc1, hr1, -⟩ := R.out k (by rw [Hlen.out]; exact hlt)
      subst ha1
      have hn := hin.out k (by rw [Hlen.out]; exact hlt)
      have T := fun w h => toIts i1 c1 (izAt ls k) w hn h
      have hG : w.heap.size < wr.heap.size := (World.ownsRow.lt H1.out.1.outer _ rfl).2
      have St : Hid (∀ w2 x, ItRow wr.heap.size w2 (.slice (some ⟨x, 0, none⟩) (izAt ls k).length (izAt ls k).length) (izAt ls k) → Below wr.heap.size wr w2 →
          (∃ vs', IzB ls len w.heap.size (k + 1) vs' (w2.setCell ⟨w.heap.size, k, none⟩ (.slice (some ⟨x, 0, none⟩) (izAt ls k).length (izAt ls k).length)) ∧ Below w.heap.size w (w2.setCell ⟨w.heap.size, k, none⟩ (.slice (some ⟨x, 0, none⟩) (izAt ls k).length (izAt ls k).length))) ∧ (∃ y, w2.cell? ⟨w.heap.size, k, none⟩ = some y) ∧ w2.frozen? ⟨w.heap.size, k, none⟩ = false) := fun w2 x q1 q2 => by
        have hb := H1.out.1.below q2
        refine ⟨⟨_, H1.out.1.add hlt q2 q1, (H1.out.2.trans (q2.mono H1.out.2.size)).setCell (Nat.le_refl _) _⟩, ?_, hb.outer.frozenAt k⟩
        rw [hb.outer.cellAt k (by omega)]
        exact ⟨_, List.getElem?_eq_getElem (by have := hb.len; simp; omega)⟩
      generalize izAt ls k = l at hc1 hr1 T St
      generalize hln : l.length = n at hc1 T St
      clear hln
      have T' : Hid _ := T
      have Hr1 : Hid (ItsAt wr i1 l) := hr1
      clear T hr1 hn R
      go_wp2_with fail
      refine (T'.out _ Hr1.out).mono ?_
      rintro e w2 ⟨x, rfl, q1, q2⟩
      obtain ⟨H3, ⟨y, hy⟩, hz⟩ := St.out w2 x q1 q2
      have H3 : Hid _ := H3
      have hG2 : w.heap.size < w2.heap.size := Nat.lt_of_lt_of_le hG q2.size
      clear q1 q2 St
      go_wp2
      go_roundw
      case rel => exact ⟨k + 1, by omega, by go_num, H3⟩
      case measure => simp [intOf]; omega
    · obtain rfl : k = len := by omega
      go_wp2
      go_ret
      exact ⟨_, rfl, ⟨vs, H1.out.1.done Hlen.out⟩, H1.out.2⟩
end Go.Proofs.Ytdcekimldgjliaa

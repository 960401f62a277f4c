/-
  The walk of the program's copy of rows. By the verifier.
-/
import Derived.Test.YtpkjegphfdhogaaIzBlk
import Derived.Test.YtpkjegphfdhogaaIzGrow
import Derived.Test.YtpkjegphfdhogaaItCpy
import Derived.Test.YtpkjegphfdhogaaRwFn
import Derived.Test.YtpkjegphfdhogaaStepRow
import Derived.Laws.ResultCell
import Derived.Laws.CopyOwn
namespace Go.Proofs.Ytpkjegphfdhogaa
open Go.RowKit

theorem IzB.grow {ls : List (List It)} {len G : Nat} {vs : List Value} {wr : World} (h : IzB ls len G len vs wr) (hl : ls.length = len) : IzG G (.slice (some ⟨G, 0, none⟩) len len) vs ls wr := by
  subst hl
  have ho := h.outer
  rw [Nat.sub_self, List.replicate_zero, List.append_nil] at ho
  exact ⟨ho, h.len, h.row, fun i j k hi hj hne h1 h2 => h.apart i j hi hj hne (h1.trans h2.symm)⟩

set_option maxHeartbeats 6400000 in
set_option maxRecDepth 100000 in
theorem implCopied (r : Rw) (a : Option Addr) (c : Nat) (w : World) (hB : r.big ≤ 1048576) (h : Hid (IzAt w a r.lists)) :
    Calls Try.prog 38 #[r.val a c] w fun e w' => (∃ v vs, e = .returned (.agg #[.int .i64 r.most, v]) ∧ IzG (w.heap.size + 2) v vs r.lists w') ∧ Below w.heap.size w w' := by
  obtain ⟨hT, -, hin⟩ := Rw.small hB
  obtain ⟨f, ls⟩ := r
  simp only [Rw.val] at h hT hin ⊢
  clear hB
  have Hin : Hid (∀ k, k < ls.length → (izAt ls k).length ≤ 1048576) := hin
  obtain ⟨i0, hi, hz0, hz1, hz2⟩ := info_parts izInfo
  obtain ⟨n, hn⟩ : ∃ n, ls.length = n := ⟨_, rfl⟩
  rw [hn] at hT ⊢
  have Hn : Hid (ls.length = n) := hn
  clear hn hin
  have hmk : ∀ wx, (Instr.makeSlice 27 (.int .i64 (n : Int)) (.int .i64 (n : Int))).run Try.prog wx = .ok (.slice (some ⟨wx.heap.size, 0, none⟩) n n) (wx.alloc (.cells (madeCells #[.slice none 0 0] (n * 1)) 50)) := by
    intro wx
    have := run_make (P := Try.prog) wx 27 50 i0 (.slice none 0 0) Try.underlying27 hi hz0 .i64 .i64 n n (by omega) (by omega) (by rw [hz2]; omega) (by omega)
    rw [this, hz1]; simp [Value.cells]
  clear hi hz0 hz1 hz2
  obtain ⟨W0, hW0⟩ : ∃ W0, W0 = (w.alloc (.cells #[.int .i64 f, .slice a n c] 29)).alloc (.cells #[.int .i64 0, .slice none 0 0] 29) := ⟨_, rfl⟩
  have hs0 : W0.heap.size = w.heap.size + 1 + 1 := by rw [hW0]; simp
  have X0 : Hid (Boxed W0 w.heap.size #[.int .i64 f, .slice a n c] 29 ∧ Boxed W0 (w.heap.size + 1) #[.int .i64 0, .slice none 0 0] 29 ∧ Below w.heap.size w W0) := by
    rw [hW0]
    refine ⟨(Boxed.new w _ _).more _, ?_, ((Below.refl _ _).alloc (Nat.le_refl _) _).alloc (by simp) _⟩
    have := Boxed.new (w.alloc (.cells #[.int .i64 f, .slice a n c] 29)) #[.int .i64 0, .slice none 0 0] 29
    simpa using this
  have X : Hid (IzB ls n (w.heap.size + 1 + 1) 0 [] (W0.alloc (.cells (madeCells #[.slice none 0 0] (n * 1)) 50)) ∧ Below (w.heap.size + 1 + 1) W0 (W0.alloc (.cells (madeCells #[.slice none 0 0] (n * 1)) 50))) := by
    rw [← hs0]
    refine ⟨?_, (Below.refl _ _).alloc (Nat.le_refl _) _⟩
    have := World.ownsRow_lit (size := 1) (e := 50) (base := W0.heap.size) W0 (madeCells #[.slice none 0 0] (n * 1)) n (Nat.le_refl _) (by unfold maxLen; omega) (by rw [size_madeCells])
    rw [izMade] at this
    exact ⟨by simpa using this, rfl, fun i hi => by omega, fun i hi => by omega, fun i j hi => by omega⟩
  have HS : Hid (W0.heap.size = w.heap.size + 1 + 1) := hs0
  have HW : Hid (W0 = _) := hW0
  rw [Nat.mul_one] at X
  clear hW0 hs0
  have c1 : W0.cell? ⟨w.heap.size, 1, none⟩ = some (.slice a n c) := X0.out.1.cell 1 rfl
  go_enter Try.func38, Try.ntmps38
  go_wp2
  rw [← HW.out]
  generalize W0.alloc (.cells (madeCells #[.slice none 0 0] n) 50) = W1 at X ⊢
  clear c1
  go_loopw [13] (fun i wr => ∃ k : Nat, k ≤ n ∧ i = .int .i64 k ∧ Hid (∃ vs, IzB ls n (w.heap.size + 1 + 1) k vs wr ∧ Below (w.heap.size + 1 + 1) W0 wr)) (fun i _ => n - (intOf i).toNat)
  case atStart => exact ⟨0, Nat.zero_le _, rfl, [], X.out⟩
  case round =>
    clear X hmk
    obtain ⟨k, hk, rfl, H1⟩ := hrel
    obtain ⟨vs, H1⟩ : ∃ vs, Hid (IzB ls n (w.heap.size + 1 + 1) k vs wr ∧ Below (w.heap.size + 1 + 1) W0 wr) := H1.out
    have Bw : Hid (Below w.heap.size w wr) := X0.out.2.2.trans (H1.out.2.mono (by omega))
    by_cases hlt : k < n
    · have R : Hid (IzAt wr a ls) := h.out.below Bw.out
      obtain ⟨b1, o1, i1, c1, ha1, hb1, hc1, hr1, -⟩ := R.out k (by rw [Hn.out]; exact hlt)
      subst ha1
      have hn := Hin.out k (by rw [Hn.out]; exact hlt)
      have T := fun w h => implCopyOf i1 c1 (izAt ls k) w hn h
      have hG : w.heap.size + 1 + 1 < wr.heap.size := (World.ownsRow.lt H1.out.1.outer _ rfl).2
      have hlt' : (k : Int) < (n : Int) := by omega
      have St : Hid (∀ w2 x, ItRow wr.heap.size w2 (.slice (some ⟨x, 0, none⟩) (izAt ls k).length (izAt ls k).length) (izAt ls k) → Below wr.heap.size wr w2 →
          (∃ vs', IzB ls n (w.heap.size + 1 + 1) (k + 1) vs' (w2.setCell ⟨w.heap.size + 1 + 1, k, none⟩ (.slice (some ⟨x, 0, none⟩) (izAt ls k).length (izAt ls k).length)) ∧ Below (w.heap.size + 1 + 1) W0 (w2.setCell ⟨w.heap.size + 1 + 1, k, none⟩ (.slice (some ⟨x, 0, none⟩) (izAt ls k).length (izAt ls k).length))) ∧ (∃ y, w2.cell? ⟨w.heap.size + 1 + 1, k, none⟩ = some y) ∧ w2.frozen? ⟨w.heap.size + 1 + 1, k, none⟩ = false) := fun w2 x q1 q2 => by
        have hb := H1.out.1.below q2
        refine ⟨⟨_, H1.out.1.add hlt q2 q1, (H1.out.2.trans (q2.mono (by omega))).setCell (Nat.le_refl _) _⟩, ?_, hb.outer.frozenAt k⟩
        rw [hb.outer.cellAt k (by omega)]
        exact ⟨_, List.getElem?_eq_getElem (by have := hb.len; simp; omega)⟩
      generalize izAt ls k = l at hc1 hr1 T St
      generalize hln : l.length = m at hc1 T St
      clear hln
      have T' : Hid _ := T
      have Hr1 : Hid (ItsAt wr i1 l) := hr1
      clear T hr1 hn R
      go_wp2_with fail
      refine (T'.out _ Hr1.out).mono ?_
      rintro e w2 ⟨x, rfl, q1, q2⟩
      obtain ⟨H3, ⟨y, hy⟩, hz⟩ := St.out w2 x q1 q2
      have H3 : Hid _ := H3
      have hG2 : w.heap.size + 1 + 1 < w2.heap.size := Nat.lt_of_lt_of_le hG q2.size
      clear q1 q2 St hc1
      go_wp2
      go_roundw
      case rel => exact ⟨k + 1, by omega, by go_num, H3⟩
      case measure => simp [intOf]; omega
    · obtain rfl : k = n := by omega
      have hlt2 : w.heap.size + 1 < w.heap.size + 1 + 1 := by omega
      have B0 : Hid (Boxed wr w.heap.size #[.int .i64 f, .slice a k c] 29 ∧ Boxed wr (w.heap.size + 1) #[.int .i64 0, .slice none 0 0] 29 ∧ IzG (w.heap.size + 1 + 1) (.slice (some ⟨w.heap.size + 1 + 1, 0, none⟩) k k) vs ls wr) := ⟨X0.out.1.below (by omega) H1.out.2, X0.out.2.1.below hlt2 H1.out.2, H1.out.1.grow Hn.out⟩
      have c0 : wr.cell? ⟨w.heap.size, 0, none⟩ = some (.int .i64 f) := B0.out.1.cell 0 rfl
      clear H1 hlt2
      go_wp2_with (refine wpList_store_row rfl 29 (.tmp 2) (.tmp 27) rfl (w.heap.size + 1) _ rfl rfl _ _ B0.out.2.1 (by kernel_rfl) rfl (by simp [Value.oneCell']) ?_)
      refine bodyPost_ret (results_cell_row Try.results38 _ _ (w.heap.size + 1) _ _ _ _ rfl (setRow_heap _ (w.heap.size + 1) _ _ _ _ B0.out.2.1) Try.underlying29 rfl (by kernel_rfl)) rfl ⟨⟨_, vs, rfl, B0.out.2.2.other fun y hy _ => setRow_other _ _ _ _ (by omega)⟩, below_setRow Bw.out (by omega) _⟩
end Go.Proofs.Ytpkjegphfdhogaa

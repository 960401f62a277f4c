/-
  The walk of the program's copy of flows. By the verifier.
-/
import Derived.Test.YtllmkolchgmjoaaFwLay
import Derived.Test.YtllmkolchgmjoaaM6IntOwn
import Derived.Test.YtllmkolchgmjoaaFsFn
import Derived.Test.YtllmkolchgmjoaaStepRow
import Derived.Laws.ResultCell
import Derived.Laws.CopyOwn
import Derived.Deep.RegionWith
namespace Go.Proofs.Ytllmkolchgmjoaa
open Go.RowKit

set_option maxHeartbeats 6400000 in
set_option maxRecDepth 100000 in
theorem implOwnFair (d : Fs) (a : Option Addr) (c : Nat) (w : World) (hB : d.big ≤ 1048576) (h : Hid (FwsAt w a d.flows)) :
    Calls Try.prog 31 #[d.val a c] w fun e w' => (∃ v rs, e = .returned (.agg #[.int .i64 d.now, v]) ∧ FwG (w.heap.size + 2) v rs d.flows w') ∧ Below w.heap.size w w' := by
  obtain ⟨hT, -, hin⟩ := Fs.small hB
  obtain ⟨f, ls⟩ := d
  simp only [Fs.val] at h hT hin ⊢
  clear hB
  have Hin : Hid (∀ k, k < ls.length → (fwAt ls k).sizes.length ≤ 1048576) := hin
  obtain ⟨i0, hi, hz0, hz1, hz2⟩ := info_parts fwInfo
  obtain ⟨n, hn⟩ : ∃ n, ls.length = n := ⟨_, rfl⟩
  rw [hn] at hT ⊢
  have Hn : Hid (ls.length = n) := hn
  clear hn hin
  have hmk : ∀ wx, (Instr.makeSlice 24 (.int .i64 (n : Int)) (.int .i64 (n : Int))).run Try.prog wx = .ok (.slice (some ⟨wx.heap.size, 0, none⟩) n n) (wx.alloc (.cells (madeCells #[.int .i64 0, .int .i64 0, .slice none 0 0] (n * 3)) 36)) := by
    intro wx
    have := run_make (P := Try.prog) wx 24 36 i0 (.agg #[.int .i64 0, .int .i64 0, .slice none 0 0]) Try.underlying24 hi hz0 .i64 .i64 n n (by omega) (by omega) (by rw [hz2]; omega) (by omega)
    rw [this, hz1]; simp [Value.cells]
  clear hi hz0 hz1 hz2
  obtain ⟨W0, hW0⟩ : ∃ W0, W0 = (w.alloc (.cells #[.int .i64 f, .slice a n c] 26)).alloc (.cells #[.int .i64 0, .slice none 0 0] 26) := ⟨_, rfl⟩
  have hs0 : W0.heap.size = w.heap.size + 1 + 1 := by rw [hW0]; simp
  have X0 : Hid (Boxed W0 w.heap.size #[.int .i64 f, .slice a n c] 26 ∧ Boxed W0 (w.heap.size + 1) #[.int .i64 0, .slice none 0 0] 26 ∧ Below w.heap.size w W0) := by
    rw [hW0]
    refine ⟨(Boxed.new w _ _).more _, ?_, ((Below.refl _ _).alloc (Nat.le_refl _) _).alloc (by simp) _⟩
    have := Boxed.new (w.alloc (.cells #[.int .i64 f, .slice a n c] 26)) #[.int .i64 0, .slice none 0 0] 26
    simpa using this
  have X : Hid (FwL ls n (w.heap.size + 1 + 1) 0 [] (W0.alloc (.cells (madeCells #[.int .i64 0, .int .i64 0, .slice none 0 0] (n * 3)) 36)) ∧ Below (w.heap.size + 1 + 1) W0 (W0.alloc (.cells (madeCells #[.int .i64 0, .int .i64 0, .slice none 0 0] (n * 3)) 36))) := by
    rw [← hs0]
    exact ⟨FwL.new ls n W0 hT, (Below.refl _ _).alloc (Nat.le_refl _) _⟩
  have HS : Hid (W0.heap.size = w.heap.size + 1 + 1) := hs0
  have HW : Hid (W0 = _) := hW0
  clear hW0 hs0
  go_enter Try.func31, Try.ntmps31
  go_wp2
  rw [← HW.out]
  generalize W0.alloc (.cells (madeCells #[.int .i64 0, .int .i64 0, .slice none 0 0] (n * 3)) 36) = W1 at X ⊢
  go_loopw [4, 5, 13] (fun _ _ i wr => ∃ k : Nat, k ≤ n ∧ i = .int .i64 k ∧ Hid (∃ rs, FwL ls n (w.heap.size + 1 + 1) k rs wr ∧ Below (w.heap.size + 1 + 1) W0 wr)) (fun _ _ i _ => n - (intOf i).toNat)
  case atStart => exact ⟨0, Nat.zero_le _, rfl, [], X.out⟩
  case round =>
    clear X hmk
    obtain ⟨k, hk, rfl, H1⟩ := hrel
    obtain ⟨rs, H1⟩ : ∃ rs, Hid (FwL ls n (w.heap.size + 1 + 1) k rs wr ∧ Below (w.heap.size + 1 + 1) W0 wr) := H1.out
    have Bw : Hid (Below w.heap.size w wr) := X0.out.2.2.trans (H1.out.2.mono (by omega))
    obtain ⟨wo, rfl⟩ : ∃ wo, wo = wr := ⟨_, rfl⟩
    by_cases hlt : k < n
    · have hkl : k < ls.length := by rw [Hn.out]; exact hlt
      obtain ⟨b1, o1, ak, ck, ha1, hb1, ⟨c0, c1, c2⟩, hr1, -⟩ := (h.out.below Bw.out) k hkl
      subst ha1
      have hn := Hin.out k hkl
      have T := fun w h => implCopyN ak ck (fwAt ls k).sizes w h hn
      have hG : w.heap.size + 1 + 1 < wo.heap.size := (World.ownsRow.lt H1.out.1.outer _ rfl).2
      have hlt' : (k : Int) < (n : Int) := by omega
      have St : Hid (∀ w1 w2 u, Below wo.heap.size wo w1 → IRow w1.heap.size w2 u (fwAt ls k).sizes → Below w1.heap.size w1 w2 →
          (∃ rs', FwL ls n (w.heap.size + 1 + 1) (k + 1) rs' (((w2.setCell ⟨w.heap.size + 1 + 1, k * 3, none⟩ (.int .i64 (fwAt ls k).weight)).setCell ⟨w.heap.size + 1 + 1, k * 3 + 1, none⟩ (.int .i64 (fwAt ls k).finish)).setCell ⟨w.heap.size + 1 + 1, k * 3 + 2, none⟩ u) ∧ Below (w.heap.size + 1 + 1) W0 (((w2.setCell ⟨w.heap.size + 1 + 1, k * 3, none⟩ (.int .i64 (fwAt ls k).weight)).setCell ⟨w.heap.size + 1 + 1, k * 3 + 1, none⟩ (.int .i64 (fwAt ls k).finish)).setCell ⟨w.heap.size + 1 + 1, k * 3 + 2, none⟩ u)) ∧ ((∃ y, w2.cell? ⟨w.heap.size + 1 + 1, k * 3, none⟩ = some y) ∧ w2.frozen? ⟨w.heap.size + 1 + 1, k * 3, none⟩ = false) ∧ ((∃ y, w2.cell? ⟨w.heap.size + 1 + 1, k * 3 + 1, none⟩ = some y) ∧ w2.frozen? ⟨w.heap.size + 1 + 1, k * 3 + 1, none⟩ = false) ∧ ((∃ y, w2.cell? ⟨w.heap.size + 1 + 1, k * 3 + 2, none⟩ = some y) ∧ w2.frozen? ⟨w.heap.size + 1 + 1, k * 3 + 2, none⟩ = false)) := fun w1 w2 u q0 q1 q2 => by
        have hb0 := H1.out.1.below q0
        have hb := hb0.below q2
        refine ⟨⟨_, hb0.add hlt q2 q1, (((((H1.out.2.trans (q0.mono (Nat.le_of_lt hG))).trans (q2.mono (Nat.le_trans (Nat.le_of_lt hG) q0.size)))).setCell (Nat.le_refl _) _).setCell (Nat.le_refl _) _).setCell (Nat.le_refl _) _⟩, ?_, hb.cell hlt (j := 1) (by omega), hb.cell hlt (j := 2) (by omega)⟩
        have := hb.cell hlt (j := 0) (by omega)
        simpa using this
      generalize fwAt ls k = q at c0 c1 c2 hr1 T St
      obtain ⟨t, tu, fl⟩ := q
      simp only at c0 c1 c2 hr1 T St
      have Hm : Hid (∀ {base : Nat} {w : World} {u : Value}, IRow base w u fl → ∃ x y, u = .slice x fl.length y) := fun h => h.shape
      generalize fl.length = m at c2 T Hm
      have T' : Hid _ := T
      have N : Hid (Boxed (wo.alloc (.cells #[.int .i64 0, .int .i64 0, .slice none 0 0] 36)) wo.heap.size #[.int .i64 0, .int .i64 0, .slice none 0 0] 36) := Boxed.new _ _ _
      obtain ⟨wh, hwh⟩ : ∃ wh, (wo.alloc (.cells #[.int .i64 0, .int .i64 0, .slice none 0 0] 36)).setRow wo.heap.size #[.int .i64 t, .int .i64 tu, .slice ak m ck] = wh := ⟨_, rfl⟩
      have b0 : Below wo.heap.size wo wh := by rw [← hwh]; exact below_setRow ((Below.refl _ _).alloc (Nat.le_refl _) _) (Nat.le_refl _) _
      have V : Hid (Boxed wh wo.heap.size #[.int .i64 t, .int .i64 tu, .slice ak m ck] 36 ∧ Below wo.heap.size wo wh ∧ IntsAt wh.drew ak fl) := ⟨by rw [← hwh]; exact setRow_heap _ _ _ _ _ _ N.out, b0, hr1.below b0.drew⟩
      have HW2 : Hid _ := hwh
      clear T hr1 hn hwh b0 hkl
      go_upto_region 5 with (refine wpList_store_row rfl 36 (.tmp 5) (.tmp 17) rfl wo.heap.size #[.int .i64 t, .int .i64 tu, .slice ak m ck] rfl rfl _ _ N.out (by kernel_rfl) rfl (by simp [Value.oneCell']) ?_)
      rw [HW2.out]
      clear N HW2 c0 c1 c2
      have d0 : wh.cell? ⟨wo.heap.size, 0, none⟩ = some (.int .i64 t) := V.out.1.cell 0 rfl
      have d1 : wh.cell? ⟨wo.heap.size, 1, none⟩ = some (.int .i64 tu) := V.out.1.cell 1 rfl
      have d2 : wh.cell? ⟨wo.heap.size, 2, none⟩ = some (.slice ak m ck) := V.out.1.cell 2 rfl
      have dl : wo.heap.size < wh.heap.size := V.out.1.under
      go_region_with (go_at_call 61; refine (T'.out wh.drew V.out.2.2).mono ?_; rintro e w2 ⟨u, rfl, q1, q2⟩; obtain ⟨x, y, ev⟩ := Hm.out q1; subst ev; obtain ⟨H3, ⟨⟨y0, hy0⟩, hz0⟩, ⟨⟨y1, hy1⟩, hz1⟩, ⟨yy2, hy2⟩, hz2⟩ := St.out wh.drew w2 _ V.out.2.1.drew q1 q2; have H3 : Hid _ := H3; have hG2 : w.heap.size + 1 + 1 < w2.heap.size := Nat.lt_of_lt_of_le hG (Nat.le_trans V.out.2.1.size q2.size); have V2 : Hid (Boxed w2 wo.heap.size #[.int .i64 t, .int .i64 tu, .slice ak m ck] 36) := Boxed.below (w := wh.drew) V.out.1 dl q2; have d0 : w2.cell? ⟨wo.heap.size, 0, none⟩ = some (.int .i64 t) := V2.out.cell 0 rfl; have d1 : w2.cell? ⟨wo.heap.size, 1, none⟩ = some (.int .i64 tu) := V2.out.cell 1 rfl; clear q1 q2)
      all_goals (
        go_wp2
        go_roundw
        case rel => exact ⟨k + 1, by omega, by go_num, H3⟩
        case measure => simp [intOf]; omega)
    · obtain rfl : k = n := by omega
      have hlt2 : w.heap.size + 1 < w.heap.size + 1 + 1 := by omega
      have B0 : Hid (Boxed wo w.heap.size #[.int .i64 f, .slice a k c] 26 ∧ Boxed wo (w.heap.size + 1) #[.int .i64 0, .slice none 0 0] 26 ∧ FwG (w.heap.size + 1 + 1) (.slice (some ⟨w.heap.size + 1 + 1, 0, none⟩) k k) rs ls wo) := ⟨X0.out.1.below (by omega) H1.out.2, X0.out.2.1.below hlt2 H1.out.2, H1.out.1.grow Hn.out⟩
      have c0 : wo.cell? ⟨w.heap.size, 0, none⟩ = some (.int .i64 f) := B0.out.1.cell 0 rfl
      clear H1 hlt2
      go_wp2_with (refine wpList_store_row rfl 26 (.tmp 2) (.tmp 33) rfl (w.heap.size + 1) _ rfl rfl _ _ B0.out.2.1 (by kernel_rfl) rfl (by simp [Value.oneCell']) ?_)
      refine bodyPost_ret (results_cell_row Try.results31 _ _ (w.heap.size + 1) _ _ _ _ rfl (setRow_heap _ (w.heap.size + 1) _ _ _ _ B0.out.2.1) Try.underlying26 rfl (by kernel_rfl)) rfl ⟨⟨_, rs, rfl, B0.out.2.2.other fun y hy _ => setRow_other _ _ _ _ (by omega)⟩, below_setRow Bw.out (by omega) _⟩
end Go.Proofs.Ytllmkolchgmjoaa

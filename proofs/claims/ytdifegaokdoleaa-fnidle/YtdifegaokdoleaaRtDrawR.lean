/-
  The model's drawing of a route. By the verifier.
-/
import Derived.Test.YtdifegaokdoleaaM6DrawKeep
import Derived.Deep.DeepCutAuto
import Derived.Deep.RegionLaw
namespace Go.Proofs.Ytdifegaokdoleaa
open Go.RowKit

/-- A call as a step of a region that draws. -/
theorem call_step {P : Program} {ops : Array Oper} {o : Oper} {a : Act} {w : World} {K : Act → World → Prop} {Q : Exit → Act → World → Prop} {E : Prop}
    (hg : o.guard = none) (f : FuncId) {az : Array Operand} {ts : Array TypeId} (_ho : o.op = .call { callee := .value (.func f), args := az, argTypes := ts }) (args : Array Value) (hrun : (execOp a.eval o).run P w = .ok (.enter f args) w) {post : Ending → World → Prop} (hc : Calls P f args w post)
    (h : ∀ e w', post e w' → ∃ v, e = .returned v ∧ K (a.put o.dst v) w') :
    if Region.wanted o (yielded ops a.tmps) = true then Oper.wp P o a w K Q else E := by
  have hw : Region.wanted o (yielded ops a.tmps) = true := by simp [Region.wanted, hg]
  rw [if_pos hw]
  unfold Oper.wp
  rw [hrun, Oper.upon_enter]
  refine hc.mono fun e w'' hh => ?_
  obtain ⟨v, rfl, hk⟩ := h e w'' hh
  exact hk

set_option maxHeartbeats 6400000 in
set_option maxRecDepth 100000 in
theorem drawRoute {W : World} {bc : Nat} {a : Option Addr} {len cap : Nat} (hc : Hid (Code W a len)) (w : World) (cur : Hid (Cur W bc a len cap w)) :
    Calls Try.prog 65 #[.pointer (some ⟨bc, 0, none⟩)] w fun e w' => (∃ r : Rt, e = .returned r.val) ∧ Cur W bc a len cap w' ∧ Keep bc w w' := by
  have hbc := cur.out.lt
  go_enter Try.func65, Try.ntmps65
  go_wp2_with fail
  refine (drawBelow hc 6 (by omega) _ (cur.out.alloc _)).mono ?_
  rintro e w1 ⟨⟨x, rfl, x0, x1⟩, c1, k1⟩
  have H1 : Hid (Cur W bc a len cap w1 ∧ Keep bc (w.alloc (.cells zeroRt 78)) w1) := ⟨c1, k1⟩
  clear c1 k1
  go_wp2_with fail
  refine (drawBelow hc 3 (by omega) _ H1.out.1).mono ?_
  rintro e w2 ⟨⟨y, rfl, y0, y1⟩, c2, k2⟩
  have hs2 : w.heap.size < w2.heap.size := by have := H1.out.2.size; have := k2.size; simp at *; omega
  have H2 : Hid (DrR W bc a len cap w w2.heap.size ⟨0, x, y⟩ (w2.alloc (.cells #[.int .i64 0, .int .i64 x, .int .i64 y] 78))) := by
    have kk : Keep bc (w.alloc (.cells zeroRt 78)) w2 := H1.out.2.trans k2
    refine ⟨Boxed.new _ _ _, ((Boxed.new w zeroRt 78).keep (by omega) kk).more _, c2.alloc _, (((Keep.refl _ w).alloc _).trans kk).alloc _, hs2, hbc⟩
  clear c2 k2 H1
  go_wp2_with fail
  generalize w2.alloc (.cells #[.int .i64 0, .int .i64 x, .int .i64 y] 78) = w3 at H2 ⊢
  generalize w2.heap.size = B at H2 hs2 ⊢
  refine (drawOnce hc 5 (by omega) _ H2.out.cur).mono ?_
  rintro e w4 ⟨⟨bo, rfl⟩, c4, k4⟩
  have H4 : Hid (DrR W bc a len cap w B ⟨0, x, y⟩ w4) := H2.out.draw c4 k4
  clear c4 k4 H2
  cases bo
  · go_upto_region 5 with fail
    go_cut [] (fun wc => Hid (∃ r : Rt, DrR W bc a len cap w B r wc))
    case rest =>
      obtain ⟨r, H5⟩ : ∃ r : Rt, Hid (DrR W bc a len cap w B r wc) := hcut.out
      clear hcut H4
      go_wp2_with fail
      refine (drawOnce hc 20 (by omega) _ H5.out.cur).mono ?_
      rintro e w6 ⟨⟨bp, rfl⟩, c6, k6⟩
      have H6 : Hid (DrR W bc a len cap w B r w6) := H5.out.draw c6 k6
      clear c6 k6 H5
      cases bp
      · go_wp2_with (first | (refine wpList_load_row rfl 78 (.tmp 3) rfl B rfl _ _ _ _ H6.out.rt Try.underlying78 rfl (by kernel_rfl) ?_) | (refine wpList_store_row rfl 78 (.tmp 2) (.tmp 61) rfl w.heap.size _ rfl rfl _ _ H6.out.res (by kernel_rfl) rfl (oneR _ _ _) ?_))
        exact H6.out.done rfl rfl
      · go_wp2_with fail
        refine (drawBelow hc 3 (by omega) _ H6.out.cur).mono ?_
        rintro e w7 ⟨⟨q, rfl, q0, q1⟩, c7, k7⟩
        have H7 : Hid (DrR W bc a len cap w B r w7) := H6.out.draw c7 k7
        clear c7 k7 H6
        have hq : q = 0 ∨ q = 1 ∨ q = 2 := by omega
        clear q0 q1
        rcases hq with rfl | rfl | rfl
        · go_wp2_with fail
          refine (drawBelow hc 4 (by omega) _ (H7.out.cur.alloc _)).mono ?_
          rintro e wt ⟨⟨y8, rfl, yy0, yy1⟩, ct, kt⟩
          obtain ⟨jt, rfl⟩ := Int.eq_ofNat_of_zero_le yy0
          have hj := tab [-1, 32, 33, 0] _ _ rfl H7.out.cur.ne kt jt (by simp; omega)
          have HT : Hid (DrR W bc a len cap w B r wt) := (H7.out.more _).draw ct kt
          clear ct kt H7
          generalize ([-1, 32, 33, 0] : List Int)[jt]?.getD 0 = z at hj
          have c1 : wt.cell? ⟨B, 1, none⟩ = some _ := HT.out.rt.cell 1 rfl
          have i1 := HT.out.rt.ice 1
          go_upto_region 14 with fail
          clear c1 i1 hj
          have d1 := HT.out.put (r' := ⟨r.net, z, r.hop⟩) 1 (.int .i64 z) rfl
          generalize wt.setCell ⟨B, 1, none⟩ (.int .i64 z) = wu at d1 ⊢
          have H8 : Hid (DrR W bc a len cap w B ⟨r.net, z, r.hop⟩ wu) := d1
          clear d1 HT
          go_wp2_with (first | (refine wpList_load_row rfl 78 (.tmp 3) rfl B rfl _ _ _ _ H8.out.rt Try.underlying78 rfl (by kernel_rfl) ?_) | (refine wpList_store_row rfl 78 (.tmp 2) (.tmp 61) rfl w.heap.size _ rfl rfl _ _ H8.out.res (by kernel_rfl) rfl (oneR _ _ _) ?_))
          exact H8.out.done rfl rfl
        · go_wp2_with fail
          refine (drawBelow hc 3 (by omega) _ (H7.out.cur.alloc _)).mono ?_
          rintro e wt ⟨⟨y8, rfl, yy0, yy1⟩, ct, kt⟩
          obtain ⟨jt, rfl⟩ := Int.eq_ofNat_of_zero_le yy0
          have hj := tab [-1, 1, 4294967296] _ _ rfl H7.out.cur.ne kt jt (by simp; omega)
          have HT : Hid (DrR W bc a len cap w B r wt) := (H7.out.more _).draw ct kt
          clear ct kt H7
          generalize ([-1, 1, 4294967296] : List Int)[jt]?.getD 0 = z at hj
          have c0 : wt.cell? ⟨B, 0, none⟩ = some _ := HT.out.rt.cell 0 rfl
          have i0 := HT.out.rt.ice 0
          go_upto_region 14 with fail
          clear c0 i0 hj
          have d1 := HT.out.put (r' := ⟨z, r.bits, r.hop⟩) 0 (.int .i64 z) rfl
          generalize wt.setCell ⟨B, 0, none⟩ (.int .i64 z) = wu at d1 ⊢
          have H8 : Hid (DrR W bc a len cap w B ⟨z, r.bits, r.hop⟩ wu) := d1
          clear d1 HT
          go_wp2_with (first | (refine wpList_load_row rfl 78 (.tmp 3) rfl B rfl _ _ _ _ H8.out.rt Try.underlying78 rfl (by kernel_rfl) ?_) | (refine wpList_store_row rfl 78 (.tmp 2) (.tmp 61) rfl w.heap.size _ rfl rfl _ _ H8.out.res (by kernel_rfl) rfl (oneR _ _ _) ?_))
          exact H8.out.done rfl rfl
        · go_wp2_with fail
          refine (drawBelow hc 3 (by omega) _ (H7.out.cur.alloc _)).mono ?_
          rintro e wt ⟨⟨y8, rfl, yy0, yy1⟩, ct, kt⟩
          obtain ⟨jt, rfl⟩ := Int.eq_ofNat_of_zero_le yy0
          have hj := tab [-1, 99, 100] _ _ rfl H7.out.cur.ne kt jt (by simp; omega)
          have HT : Hid (DrR W bc a len cap w B r wt) := (H7.out.more _).draw ct kt
          clear ct kt H7
          generalize ([-1, 99, 100] : List Int)[jt]?.getD 0 = z at hj
          have c2 : wt.cell? ⟨B, 2, none⟩ = some _ := HT.out.rt.cell 2 rfl
          have i2 := HT.out.rt.ice 2
          go_upto_region 14 with fail
          clear c2 i2 hj
          have d1 := HT.out.put (r' := ⟨r.net, r.bits, z⟩) 2 (.int .i64 z) rfl
          generalize wt.setCell ⟨B, 2, none⟩ (.int .i64 z) = wu at d1 ⊢
          have H8 : Hid (DrR W bc a len cap w B ⟨r.net, r.bits, z⟩ wu) := d1
          clear d1 HT
          go_wp2_with (first | (refine wpList_load_row rfl 78 (.tmp 3) rfl B rfl _ _ _ _ H8.out.rt Try.underlying78 rfl (by kernel_rfl) ?_) | (refine wpList_store_row rfl 78 (.tmp 2) (.tmp 61) rfl w.heap.size _ rfl rfl _ _ H8.out.res (by kernel_rfl) rfl (oneR _ _ _) ?_))
          exact H8.out.done rfl rfl
    have hp : 0 < IntKind.i64.wrap (2 ^ min (IntKind.u64.wrap x).toNat 64) := by
      have hx : x = 0 ∨ x = 1 ∨ x = 2 ∨ x = 3 ∨ x = 4 ∨ x = 5 := by omega
      rcases hx with rfl | rfl | rfl | rfl | rfl | rfl <;> decide
    have c1 : w4.cell? ⟨B, 1, none⟩ = some (.int .i64 x) := H4.out.rt.cell 1 rfl
    have l1 : B < w4.heap.size := H4.out.rt.under
    go_region_law (refine call_step rfl 56 rfl #[.pointer (some ⟨bc, 0, none⟩), .int .i64 (IntKind.i64.wrap (2 ^ min (IntKind.u64.wrap x).toNat 64))] (by kernel_rfl) (drawBelow hc _ hp _ H4.out.cur.drew) ?_; rintro e w5 ⟨⟨n, rfl, n0, n1⟩, c5, k5⟩; refine ⟨_, rfl, ?_⟩; have H5 : Hid (DrR W bc a len cap w B ⟨0, x, y⟩ w5) := H4.out.draw c5 ((Keep.refl _ w4).drew.trans k5); have d1 : w5.cell? ⟨B, 1, none⟩ = some (.int .i64 x) := H5.out.rt.cell 1 rfl; have d0 : w5.cell? ⟨B, 0, none⟩ = some (.int .i64 0) := H5.out.rt.cell 0 rfl; have i0 := H5.out.rt.ice 0; have l5 : B < w5.heap.size := H5.out.rt.under; clear c5 k5)
    all_goals
      go_wp2_with fail
      go_meet
      exact ⟨_, H5.out.put (r' := ⟨_, x, y⟩) 0 _ rfl⟩
  · obtain ⟨r, hr⟩ : ∃ r : Rt, r = ⟨0, x, y⟩ := ⟨_, rfl⟩
    rw [← hr] at H4
    go_wp2_with fail
    refine (drawBelow hc 4 (by omega) _ (H4.out.cur.alloc _)).mono ?_
    rintro e wt ⟨⟨y5, rfl, yy0, yy1⟩, ct, kt⟩
    obtain ⟨jt, rfl⟩ := Int.eq_ofNat_of_zero_le yy0
    have hj := tab [30, 31, 32, 8] _ _ rfl H4.out.cur.ne kt jt (by simp; omega)
    have HT : Hid (DrR W bc a len cap w B r wt) := (H4.out.more _).draw ct kt
    clear ct kt H4
    generalize ([30, 31, 32, 8] : List Int)[jt]?.getD 0 = z at hj
    have c1 : wt.cell? ⟨B, 1, none⟩ = some _ := HT.out.rt.cell 1 rfl
    have i1 := HT.out.rt.ice 1
    go_upto_region 4 with fail
    clear c1 i1 hj
    have d1 := HT.out.put (r' := ⟨r.net, z, r.hop⟩) 1 (.int .i64 z) rfl
    generalize wt.setCell ⟨B, 1, none⟩ (.int .i64 z) = wu at d1 ⊢
    have H5 : Hid (DrR W bc a len cap w B ⟨r.net, z, r.hop⟩ wu) := d1
    clear d1 HT
    go_wp2_with fail
    refine (drawBelow hc 8 (by omega) _ H5.out.cur).mono ?_
    rintro e wt ⟨⟨y5, rfl, yy0, yy1⟩, ct, kt⟩
    have HT : Hid (DrR W bc a len cap w B ⟨r.net, z, r.hop⟩ wt) := H5.out.draw ct kt
    clear ct kt H5
    have c0 : wt.cell? ⟨B, 0, none⟩ = some _ := HT.out.rt.cell 0 rfl
    have i0 := HT.out.rt.ice 0
    go_upto_region 6 with fail
    clear c0 i0
    have d1 := HT.out.put (r' := ⟨y5 * 536870912, z, r.hop⟩) 0 (.int .i64 (y5 * 536870912)) rfl
    generalize wt.setCell ⟨B, 0, none⟩ (.int .i64 (y5 * 536870912)) = wu at d1 ⊢
    obtain ⟨r, H5⟩ : ∃ r : Rt, Hid (DrR W bc a len cap w B r wu) := ⟨_, d1⟩
    clear d1 HT
    go_wp2_with fail
    refine (drawOnce hc 20 (by omega) _ H5.out.cur).mono ?_
    rintro e w6 ⟨⟨bp, rfl⟩, c6, k6⟩
    have H6 : Hid (DrR W bc a len cap w B r w6) := H5.out.draw c6 k6
    clear c6 k6 H5
    cases bp
    · go_wp2_with (first | (refine wpList_load_row rfl 78 (.tmp 3) rfl B rfl _ _ _ _ H6.out.rt Try.underlying78 rfl (by kernel_rfl) ?_) | (refine wpList_store_row rfl 78 (.tmp 2) (.tmp 61) rfl w.heap.size _ rfl rfl _ _ H6.out.res (by kernel_rfl) rfl (oneR _ _ _) ?_))
      exact H6.out.done rfl rfl
    · go_wp2_with fail
      refine (drawBelow hc 3 (by omega) _ H6.out.cur).mono ?_
      rintro e w7 ⟨⟨q, rfl, q0, q1⟩, c7, k7⟩
      have H7 : Hid (DrR W bc a len cap w B r w7) := H6.out.draw c7 k7
      clear c7 k7 H6
      have hq : q = 0 ∨ q = 1 ∨ q = 2 := by omega
      clear q0 q1
      rcases hq with rfl | rfl | rfl
      · go_wp2_with fail
        refine (drawBelow hc 4 (by omega) _ (H7.out.cur.alloc _)).mono ?_
        rintro e wt ⟨⟨y8, rfl, yy0, yy1⟩, ct, kt⟩
        obtain ⟨jt, rfl⟩ := Int.eq_ofNat_of_zero_le yy0
        have hj := tab [-1, 32, 33, 0] _ _ rfl H7.out.cur.ne kt jt (by simp; omega)
        have HT : Hid (DrR W bc a len cap w B r wt) := (H7.out.more _).draw ct kt
        clear ct kt H7
        generalize ([-1, 32, 33, 0] : List Int)[jt]?.getD 0 = z at hj
        have c1 : wt.cell? ⟨B, 1, none⟩ = some _ := HT.out.rt.cell 1 rfl
        have i1 := HT.out.rt.ice 1
        go_upto_region 14 with fail
        clear c1 i1 hj
        have d1 := HT.out.put (r' := ⟨r.net, z, r.hop⟩) 1 (.int .i64 z) rfl
        generalize wt.setCell ⟨B, 1, none⟩ (.int .i64 z) = wu at d1 ⊢
        have H8 : Hid (DrR W bc a len cap w B ⟨r.net, z, r.hop⟩ wu) := d1
        clear d1 HT
        go_wp2_with (first | (refine wpList_load_row rfl 78 (.tmp 3) rfl B rfl _ _ _ _ H8.out.rt Try.underlying78 rfl (by kernel_rfl) ?_) | (refine wpList_store_row rfl 78 (.tmp 2) (.tmp 61) rfl w.heap.size _ rfl rfl _ _ H8.out.res (by kernel_rfl) rfl (oneR _ _ _) ?_))
        exact H8.out.done rfl rfl
      · go_wp2_with fail
        refine (drawBelow hc 3 (by omega) _ (H7.out.cur.alloc _)).mono ?_
        rintro e wt ⟨⟨y8, rfl, yy0, yy1⟩, ct, kt⟩
        obtain ⟨jt, rfl⟩ := Int.eq_ofNat_of_zero_le yy0
        have hj := tab [-1, 1, 4294967296] _ _ rfl H7.out.cur.ne kt jt (by simp; omega)
        have HT : Hid (DrR W bc a len cap w B r wt) := (H7.out.more _).draw ct kt
        clear ct kt H7
        generalize ([-1, 1, 4294967296] : List Int)[jt]?.getD 0 = z at hj
        have c0 : wt.cell? ⟨B, 0, none⟩ = some _ := HT.out.rt.cell 0 rfl
        have i0 := HT.out.rt.ice 0
        go_upto_region 14 with fail
        clear c0 i0 hj
        have d1 := HT.out.put (r' := ⟨z, r.bits, r.hop⟩) 0 (.int .i64 z) rfl
        generalize wt.setCell ⟨B, 0, none⟩ (.int .i64 z) = wu at d1 ⊢
        have H8 : Hid (DrR W bc a len cap w B ⟨z, r.bits, r.hop⟩ wu) := d1
        clear d1 HT
        go_wp2_with (first | (refine wpList_load_row rfl 78 (.tmp 3) rfl B rfl _ _ _ _ H8.out.rt Try.underlying78 rfl (by kernel_rfl) ?_) | (refine wpList_store_row rfl 78 (.tmp 2) (.tmp 61) rfl w.heap.size _ rfl rfl _ _ H8.out.res (by kernel_rfl) rfl (oneR _ _ _) ?_))
        exact H8.out.done rfl rfl
      · go_wp2_with fail
        refine (drawBelow hc 3 (by omega) _ (H7.out.cur.alloc _)).mono ?_
        rintro e wt ⟨⟨y8, rfl, yy0, yy1⟩, ct, kt⟩
        obtain ⟨jt, rfl⟩ := Int.eq_ofNat_of_zero_le yy0
        have hj := tab [-1, 99, 100] _ _ rfl H7.out.cur.ne kt jt (by simp; omega)
        have HT : Hid (DrR W bc a len cap w B r wt) := (H7.out.more _).draw ct kt
        clear ct kt H7
        generalize ([-1, 99, 100] : List Int)[jt]?.getD 0 = z at hj
        have c2 : wt.cell? ⟨B, 2, none⟩ = some _ := HT.out.rt.cell 2 rfl
        have i2 := HT.out.rt.ice 2
        go_upto_region 14 with fail
        clear c2 i2 hj
        have d1 := HT.out.put (r' := ⟨r.net, r.bits, z⟩) 2 (.int .i64 z) rfl
        generalize wt.setCell ⟨B, 2, none⟩ (.int .i64 z) = wu at d1 ⊢
        have H8 : Hid (DrR W bc a len cap w B ⟨r.net, r.bits, z⟩ wu) := d1
        clear d1 HT
        go_wp2_with (first | (refine wpList_load_row rfl 78 (.tmp 3) rfl B rfl _ _ _ _ H8.out.rt Try.underlying78 rfl (by kernel_rfl) ?_) | (refine wpList_store_row rfl 78 (.tmp 2) (.tmp 61) rfl w.heap.size _ rfl rfl _ _ H8.out.res (by kernel_rfl) rfl (oneR _ _ _) ?_))
        exact H8.out.done rfl rfl
end Go.Proofs.Ytdifegaokdoleaa

/-
  The walk of the model's drawing of a rule. By the verifier, by program.
-/
import Derived.Test.YtdifegaokdoleaaRuDraw
import Derived.Deep.RegionLaw
import Derived.Deep.DeepCutAuto
namespace Go.Proofs.Ytdifegaokdoleaa
open Go.RowKit

/-- Behind the literal. -/
def RuLit (W : World) (bc : Nat) (ac : Option Addr) (len cap : Nat) (w : World) (s5 : Value) (wc : World) : Prop := ∃ (B : Nat) (r : Ru), s5 = .pointer (some ⟨B, 0, none⟩) ∧ DrU W bc ac len cap w B r wc

set_option maxHeartbeats 12800000 in
set_option maxRecDepth 100000 in
theorem drawRule {W : World} {bc : Nat} {ac : Option Addr} {len cap : Nat} (hc : Hid (Code W ac len)) (w : World) (cur : Hid (Cur W bc ac len cap w)) :
    Calls Try.prog 39 #[.pointer (some ⟨bc, 0, none⟩)] w fun e w' => (∃ r : Ru, e = .returned r.val) ∧ Cur W bc ac len cap w' ∧ Keep bc w w' := by
  have hbc := cur.out.lt
  go_enter Try.func39, Try.ntmps39
  go_wp2_with fail
  refine (drawRoute hc _ (cur.out.alloc _)).mono ?_
  rintro e w1 ⟨⟨r1, rfl⟩, c1, k1⟩
  have H1 : Hid (Cur W bc ac len cap w1 ∧ Keep bc w w1 ∧ Boxed w1 w.heap.size zeroRu 32 ∧ w.heap.size < w1.heap.size) := ⟨c1, ((Keep.refl _ w).alloc _).trans k1, (Boxed.new w zeroRu 32).keep (by omega) k1, by have := k1.size; simp at this; omega⟩
  clear c1 k1
  unfold Rt.val
  go_wp2_with fail
  refine (drawRoute hc _ (H1.out.1.alloc _)).mono ?_
  rintro e w2 ⟨⟨r2, rfl⟩, c2, k2⟩
  have H2 : Hid (Cur W bc ac len cap w2 ∧ Keep bc w w2 ∧ Boxed w2 w.heap.size zeroRu 32 ∧ w.heap.size < w2.heap.size ∧ Boxed w2 w1.heap.size #[.int .i64 r1.net, .int .i64 r1.bits, .int .i64 r1.hop] 78 ∧ w.heap.size < w1.heap.size ∧ bc ≠ w1.heap.size) :=
    ⟨c2, (H1.out.2.1.alloc _).trans k2, (H1.out.2.2.1.more _).keep (by omega) k2, by have := k2.size; have := H1.out.2.2.2; simp at *; omega, (Boxed.new w1 _ _).keep (fun e => H1.out.1.ne e) k2, H1.out.2.2.2, fun e => H1.out.1.ne e.symm⟩
  clear c2 k2
  unfold Rt.val
  go_wp2_with fail
  have H3 : Hid (Cur W bc ac len cap (w2.alloc (.cells #[.int .i64 r2.net, .int .i64 r2.bits, .int .i64 r2.hop] 78)) ∧ Keep bc w (w2.alloc (.cells #[.int .i64 r2.net, .int .i64 r2.bits, .int .i64 r2.hop] 78)) ∧ Boxed (w2.alloc (.cells #[.int .i64 r2.net, .int .i64 r2.bits, .int .i64 r2.hop] 78)) w.heap.size zeroRu 32 ∧ w.heap.size < (w2.alloc (.cells #[.int .i64 r2.net, .int .i64 r2.bits, .int .i64 r2.hop] 78)).heap.size ∧ Boxed (w2.alloc (.cells #[.int .i64 r2.net, .int .i64 r2.bits, .int .i64 r2.hop] 78)) w1.heap.size #[.int .i64 r1.net, .int .i64 r1.bits, .int .i64 r1.hop] 78 ∧ Boxed (w2.alloc (.cells #[.int .i64 r2.net, .int .i64 r2.bits, .int .i64 r2.hop] 78)) w2.heap.size #[.int .i64 r2.net, .int .i64 r2.bits, .int .i64 r2.hop] 78 ∧ bc ≠ w1.heap.size ∧ bc ≠ w2.heap.size) :=
    ⟨H2.out.1.alloc _, H2.out.2.1.alloc _, H2.out.2.2.1.more _, by have := H2.out.2.2.2.1; simp; omega, H2.out.2.2.2.2.1.more _, Boxed.new _ _ _, H2.out.2.2.2.2.2.2, fun e => H2.out.1.ne e.symm⟩
  clear H2 H1
  generalize w2.alloc (.cells #[.int .i64 r2.net, .int .i64 r2.bits, .int .i64 r2.hop] 78) = w3 at H3 ⊢
  generalize w1.heap.size = B3 at H3 ⊢
  generalize w2.heap.size = B4 at H3 ⊢
  go_cut [5] (fun s5 wc => Hid (RuLit W bc ac len cap w s5 wc))
  case rest =>
    obtain ⟨B, r, rfl, hx⟩ := hcut.out
    have H4 : Hid (DrU W bc ac len cap w B r wc) := hx
    clear hcut hx H3
    go_upto_region 4 with fail
    go_cut [] (fun wc => Hid (∃ r : Ru, DrU W bc ac len cap w B r wc))
    case first =>
      have c7 : wc.cell? ⟨B, 7, none⟩ = some (.int .i64 r.low) := H4.out.rt.cell 7 rfl
      have l7 : B < wc.heap.size := H4.out.rt.under
      go_region_law (refine call_step rfl 56 rfl #[.pointer (some ⟨bc, 0, none⟩), .int .i64 200] (by kernel_rfl) (drawBelow hc 200 (by omega) _ H4.out.cur.drew) ?_; rintro e w5 ⟨⟨n, rfl, n0, n1⟩, c5, k5⟩; refine ⟨_, rfl, ?_⟩; have H5 : Hid (DrU W bc ac len cap w B r w5) := H4.out.drew.draw c5 k5; have d7 : w5.cell? ⟨B, 7, none⟩ = some (.int .i64 r.low) := H5.out.rt.cell 7 rfl; have d8 : w5.cell? ⟨B, 8, none⟩ = some (.int .i64 r.high) := H5.out.rt.cell 8 rfl; have i8 := H5.out.rt.ice 8; have l5 : B < w5.heap.size := H5.out.rt.under; clear c5 k5)
      all_goals
        go_wp2_with fail
        go_meet
        exact ⟨_, H5.out.put (r' := ⟨r.id, r.prio, r.snet, r.sbits, r.dnet, r.dbits, r.proto, r.low, IntKind.i64.wrap (r.low + n), r.cls⟩) 8 _ rfl⟩
    case rest =>
    obtain ⟨r, hx⟩ := hcut.out
    have H5 : Hid (DrU W bc ac len cap w B r wc) := hx
    clear hcut hx H4
    go_wp2_with fail
    refine (drawOnce hc 2 (by omega) _ H5.out.cur).mono ?_
    rintro e w6 ⟨⟨bo, rfl⟩, c6, k6⟩
    have H6 : Hid (DrU W bc ac len cap w B r w6) := H5.out.draw c6 k6
    clear c6 k6 H5
    go_upto_if 40 with fail
    go_cut [] (fun wc => Hid (∃ r : Ru, DrU W bc ac len cap w B r wc))
    case first =>
      cases bo
      · go_wp2_with fail
        go_meet
        exact ⟨_, H6.out⟩
      · have H7 := H6
        have c2 : w6.cell? ⟨B, 2, none⟩ = some (.int .i64 r.snet) := H6.out.rt.cell 2 rfl
        have c3 : w6.cell? ⟨B, 3, none⟩ = some (.int .i64 r.sbits) := H6.out.rt.cell 3 rfl
        have c4 : w6.cell? ⟨B, 4, none⟩ = some (.int .i64 r.dnet) := H6.out.rt.cell 4 rfl
        have c5 : w6.cell? ⟨B, 5, none⟩ = some (.int .i64 r.dbits) := H6.out.rt.cell 5 rfl
        have i2 := H6.out.rt.ice 2
        have i3 := H6.out.rt.ice 3
        have i4 := H6.out.rt.ice 4
        have i5 := H6.out.rt.ice 5
        have P2 : Hid (∃ r : Ru, DrU W bc ac len cap w B r ((((w6.setCell ⟨B, 2, none⟩ (.int .i64 0)).setCell ⟨B, 3, none⟩ (.int .i64 0)).setCell ⟨B, 4, none⟩ (.int .i64 0)).setCell ⟨B, 5, none⟩ (.int .i64 0))) :=
          ⟨⟨r.id, r.prio, 0, 0, 0, 0, r.proto, r.low, r.high, r.cls⟩, (((H6.out.put (r' := ⟨r.id, r.prio, 0, r.sbits, r.dnet, r.dbits, r.proto, r.low, r.high, r.cls⟩) 2 _ rfl).put (r' := ⟨r.id, r.prio, 0, 0, r.dnet, r.dbits, r.proto, r.low, r.high, r.cls⟩) 3 _ rfl).put (r' := ⟨r.id, r.prio, 0, 0, 0, r.dbits, r.proto, r.low, r.high, r.cls⟩) 4 _ rfl).put (r' := ⟨r.id, r.prio, 0, 0, 0, 0, r.proto, r.low, r.high, r.cls⟩) 5 _ rfl⟩
        clear H7 H6
        go_wp2_with fail
        go_meet
        exact P2.out
    case rest =>
    obtain ⟨r, hx⟩ := hcut.out
    have H6 : Hid (DrU W bc ac len cap w B r wc) := hx
    clear hcut hx
    go_wp2_with fail
    refine (drawOnce hc 20 (by omega) _ H6.out.cur).mono ?_
    rintro e w6 ⟨⟨bp, rfl⟩, c6, k6⟩
    have H7 : Hid (DrU W bc ac len cap w B r w6) := H6.out.draw c6 k6
    clear c6 k6 H6
    cases bp
    · go_wp2_with (first | (refine wpList_load_row rfl 32 (.tmp 5) rfl B rfl _ _ _ _ H7.out.rt Try.underlying32 rfl (by kernel_rfl) ?_) | (refine wpList_store_row rfl 32 (.tmp 2) (.tmp 94) rfl w.heap.size _ rfl rfl _ _ H7.out.res (by kernel_rfl) rfl (oneU _ _ _ _ _ _ _ _ _ _) ?_))
      exact H7.out.done rfl rfl
    · go_wp2_with fail
      refine (drawBelow hc 5 (by omega) _ H7.out.cur).mono ?_
      rintro e w7 ⟨⟨q, rfl, q0, q1⟩, c7, k7⟩
      have H7 : Hid (DrU W bc ac len cap w B r w7) := H7.out.draw c7 k7
      clear c7 k7
      have hq : q = 0 ∨ q = 1 ∨ q = 2 ∨ q = 3 ∨ q = 4 := by omega
      clear q0 q1
      rcases hq with rfl | rfl | rfl | rfl | rfl
      · go_wp2_with fail
        refine (drawBelow hc 3 (by omega) _ (H7.out.cur.alloc _)).mono ?_
        rintro e wt ⟨⟨y8, rfl, yy0, yy1⟩, ct, kt⟩
        obtain ⟨jt, rfl⟩ := Int.eq_ofNat_of_zero_le yy0
        have hj := tab [0, 999, 1000] _ _ rfl H7.out.cur.ne kt jt (by simp; omega)
        have HT : Hid (DrU W bc ac len cap w B r wt) := (H7.out.more _).draw ct kt
        clear ct kt H7
        generalize ([0, 999, 1000] : List Int)[jt]?.getD 0 = z at hj
        have cj : wt.cell? ⟨B, 0, none⟩ = some _ := HT.out.rt.cell 0 rfl
        have ij := HT.out.rt.ice 0
        go_upto_region 22 with fail
        clear cj ij hj
        have d1 := HT.out.put (r' := ⟨z, r.prio, r.snet, r.sbits, r.dnet, r.dbits, r.proto, r.low, r.high, r.cls⟩) 0 (.int .i64 z) rfl
        generalize wt.setCell ⟨B, 0, none⟩ (.int .i64 z) = wu at d1 ⊢
        have H8 : Hid (DrU W bc ac len cap w B ⟨z, r.prio, r.snet, r.sbits, r.dnet, r.dbits, r.proto, r.low, r.high, r.cls⟩ wu) := d1
        clear d1 HT
        go_wp2_with (first | (refine wpList_load_row rfl 32 (.tmp 5) rfl B rfl _ _ _ _ H8.out.rt Try.underlying32 rfl (by kernel_rfl) ?_) | (refine wpList_store_row rfl 32 (.tmp 2) (.tmp 94) rfl w.heap.size _ rfl rfl _ _ H8.out.res (by kernel_rfl) rfl (oneU _ _ _ _ _ _ _ _ _ _) ?_))
        exact H8.out.done rfl rfl
      · go_wp2_with fail
        refine (drawBelow hc 3 (by omega) _ (H7.out.cur.alloc _)).mono ?_
        rintro e wt ⟨⟨y8, rfl, yy0, yy1⟩, ct, kt⟩
        obtain ⟨jt, rfl⟩ := Int.eq_ofNat_of_zero_le yy0
        have hj := tab [-1, 99, 100] _ _ rfl H7.out.cur.ne kt jt (by simp; omega)
        have HT : Hid (DrU W bc ac len cap w B r wt) := (H7.out.more _).draw ct kt
        clear ct kt H7
        generalize ([-1, 99, 100] : List Int)[jt]?.getD 0 = z at hj
        have cj : wt.cell? ⟨B, 1, none⟩ = some _ := HT.out.rt.cell 1 rfl
        have ij := HT.out.rt.ice 1
        go_upto_region 22 with fail
        clear cj ij hj
        have d1 := HT.out.put (r' := ⟨r.id, z, r.snet, r.sbits, r.dnet, r.dbits, r.proto, r.low, r.high, r.cls⟩) 1 (.int .i64 z) rfl
        generalize wt.setCell ⟨B, 1, none⟩ (.int .i64 z) = wu at d1 ⊢
        have H8 : Hid (DrU W bc ac len cap w B ⟨r.id, z, r.snet, r.sbits, r.dnet, r.dbits, r.proto, r.low, r.high, r.cls⟩ wu) := d1
        clear d1 HT
        go_wp2_with (first | (refine wpList_load_row rfl 32 (.tmp 5) rfl B rfl _ _ _ _ H8.out.rt Try.underlying32 rfl (by kernel_rfl) ?_) | (refine wpList_store_row rfl 32 (.tmp 2) (.tmp 94) rfl w.heap.size _ rfl rfl _ _ H8.out.res (by kernel_rfl) rfl (oneU _ _ _ _ _ _ _ _ _ _) ?_))
        exact H8.out.done rfl rfl
      · go_wp2_with fail
        refine (drawBelow hc 3 (by omega) _ (H7.out.cur.alloc _)).mono ?_
        rintro e wt ⟨⟨y8, rfl, yy0, yy1⟩, ct, kt⟩
        obtain ⟨jt, rfl⟩ := Int.eq_ofNat_of_zero_le yy0
        have hj := tab [-2, 255, 256] _ _ rfl H7.out.cur.ne kt jt (by simp; omega)
        have HT : Hid (DrU W bc ac len cap w B r wt) := (H7.out.more _).draw ct kt
        clear ct kt H7
        generalize ([-2, 255, 256] : List Int)[jt]?.getD 0 = z at hj
        have cj : wt.cell? ⟨B, 6, none⟩ = some _ := HT.out.rt.cell 6 rfl
        have ij := HT.out.rt.ice 6
        go_upto_region 22 with fail
        clear cj ij hj
        have d1 := HT.out.put (r' := ⟨r.id, r.prio, r.snet, r.sbits, r.dnet, r.dbits, z, r.low, r.high, r.cls⟩) 6 (.int .i64 z) rfl
        generalize wt.setCell ⟨B, 6, none⟩ (.int .i64 z) = wu at d1 ⊢
        have H8 : Hid (DrU W bc ac len cap w B ⟨r.id, r.prio, r.snet, r.sbits, r.dnet, r.dbits, z, r.low, r.high, r.cls⟩ wu) := d1
        clear d1 HT
        go_wp2_with (first | (refine wpList_load_row rfl 32 (.tmp 5) rfl B rfl _ _ _ _ H8.out.rt Try.underlying32 rfl (by kernel_rfl) ?_) | (refine wpList_store_row rfl 32 (.tmp 2) (.tmp 94) rfl w.heap.size _ rfl rfl _ _ H8.out.res (by kernel_rfl) rfl (oneU _ _ _ _ _ _ _ _ _ _) ?_))
        exact H8.out.done rfl rfl
      · have c8 : w7.cell? ⟨B, 8, none⟩ = some (.int .i64 r.high) := H7.out.rt.cell 8 rfl
        have l7 : B < w7.heap.size := H7.out.rt.under
        go_wp2_with fail
        go_region_law (first | (refine call_step rfl 56 rfl #[.pointer (some ⟨bc, 0, none⟩), .int .i64 3] (by kernel_rfl) (drawBelow hc 3 (by omega) w7.drew H7.out.cur.drew) ?_; rintro e wt ⟨⟨y8, rfl, yy0, yy1⟩, ct, kt⟩; refine ⟨_, rfl, ?_⟩; obtain ⟨jt, rfl⟩ := Int.eq_ofNat_of_zero_le yy0; have hj : (wt.alloc (.cells #[.int .i64 (-1), .int .i64 r.high, .int .i64 (IntKind.i64.wrap (r.high + 1))] 2)).cell? ⟨wt.heap.size, jt, none⟩ = some (.int .i64 ([-1, r.high, IntKind.i64.wrap (r.high + 1)][jt]?.getD 0)) := tab [-1, r.high, IntKind.i64.wrap (r.high + 1)] #[.int .i64 (-1), .int .i64 r.high, .int .i64 (IntKind.i64.wrap (r.high + 1))] 2 rfl ct.ne (Keep.refl bc _) jt (by simp; omega); have HT : Hid (DrU W bc ac len cap w B r wt) := H7.out.drew.draw ct kt; generalize [-1, r.high, IntKind.i64.wrap (r.high + 1)][jt]?.getD 0 = z at hj; have d8 : wt.cell? ⟨B, 8, none⟩ = some (.int .i64 r.high) := HT.out.rt.cell 8 rfl; have d7 : wt.cell? ⟨B, 7, none⟩ = some (.int .i64 r.low) := HT.out.rt.cell 7 rfl; have i7 := HT.out.rt.ice 7; have lt : B < wt.heap.size := HT.out.rt.under; clear ct kt) | (refine call_step rfl 56 rfl #[.pointer (some ⟨bc, 0, none⟩), .int .i64 3] (by kernel_rfl) (drawBelow hc 3 (by omega) (w7.alloc (.cells #[.int .i64 (-1), .int .i64 r.high, .int .i64 (IntKind.i64.wrap (r.high + 1))] 2)).drew (H7.out.more _).cur.drew) ?_; rintro e wt ⟨⟨y8, rfl, yy0, yy1⟩, ct, kt⟩; refine ⟨_, rfl, ?_⟩; obtain ⟨jt, rfl⟩ := Int.eq_ofNat_of_zero_le yy0; have hj : wt.cell? ⟨w7.heap.size, jt, none⟩ = some (.int .i64 ([-1, r.high, IntKind.i64.wrap (r.high + 1)][jt]?.getD 0)) := tab [-1, r.high, IntKind.i64.wrap (r.high + 1)] #[.int .i64 (-1), .int .i64 r.high, .int .i64 (IntKind.i64.wrap (r.high + 1))] 2 rfl H7.out.cur.ne ((Keep.refl bc _).drew.trans kt) jt (by simp; omega); have HT : Hid (DrU W bc ac len cap w B r wt) := (H7.out.more _).drew.draw ct kt; generalize [-1, r.high, IntKind.i64.wrap (r.high + 1)][jt]?.getD 0 = z at hj; have d8 : wt.cell? ⟨B, 8, none⟩ = some (.int .i64 r.high) := HT.out.rt.cell 8 rfl; have d7 : wt.cell? ⟨B, 7, none⟩ = some (.int .i64 r.low) := HT.out.rt.cell 7 rfl; have i7 := HT.out.rt.ice 7; have lt : B < wt.heap.size := HT.out.rt.under; clear ct kt))
        all_goals
          have H9 : Hid (DrU W bc ac len cap w B ⟨r.id, r.prio, r.snet, r.sbits, r.dnet, r.dbits, r.proto, z, r.high, r.cls⟩ (wt.setCell ⟨B, 7, none⟩ (.int .i64 z))) := HT.out.put 7 _ rfl
          have H8 : Hid (DrU W bc ac len cap w B ⟨r.id, r.prio, r.snet, r.sbits, r.dnet, r.dbits, r.proto, z, r.high, r.cls⟩ ((wt.setCell ⟨B, 7, none⟩ (.int .i64 z)).alloc (.cells #[.int .i64 (-1), .int .i64 r.high, .int .i64 (IntKind.i64.wrap (r.high + 1))] 2))) := H9.out.more _
          first
            | (go_wp2_with (first | (refine wpList_load_row rfl 32 (.tmp 5) rfl B rfl _ _ _ _ H8.out.rt Try.underlying32 rfl (by kernel_rfl) ?_) | (refine wpList_store_row rfl 32 (.tmp 2) (.tmp 94) rfl w.heap.size _ rfl rfl _ _ H8.out.res (by kernel_rfl) rfl (oneU _ _ _ _ _ _ _ _ _ _) ?_)); exact H8.out.done rfl rfl)
            | (go_wp2_with (first | (refine wpList_load_row rfl 32 (.tmp 5) rfl B rfl _ _ _ _ H9.out.rt Try.underlying32 rfl (by kernel_rfl) ?_) | (refine wpList_store_row rfl 32 (.tmp 2) (.tmp 94) rfl w.heap.size _ rfl rfl _ _ H9.out.res (by kernel_rfl) rfl (oneU _ _ _ _ _ _ _ _ _ _) ?_)); exact H9.out.done rfl rfl)
      · go_wp2_with fail
        refine (drawBelow hc 3 (by omega) _ (H7.out.cur.alloc _)).mono ?_
        rintro e wt ⟨⟨y8, rfl, yy0, yy1⟩, ct, kt⟩
        obtain ⟨jt, rfl⟩ := Int.eq_ofNat_of_zero_le yy0
        have hj := tab [-1, 15, 16] _ _ rfl H7.out.cur.ne kt jt (by simp; omega)
        have HT : Hid (DrU W bc ac len cap w B r wt) := (H7.out.more _).draw ct kt
        clear ct kt H7
        generalize ([-1, 15, 16] : List Int)[jt]?.getD 0 = z at hj
        have cj : wt.cell? ⟨B, 9, none⟩ = some _ := HT.out.rt.cell 9 rfl
        have ij := HT.out.rt.ice 9
        go_upto_region 22 with fail
        clear cj ij hj
        have d1 := HT.out.put (r' := ⟨r.id, r.prio, r.snet, r.sbits, r.dnet, r.dbits, r.proto, r.low, r.high, z⟩) 9 (.int .i64 z) rfl
        generalize wt.setCell ⟨B, 9, none⟩ (.int .i64 z) = wu at d1 ⊢
        have H8 : Hid (DrU W bc ac len cap w B ⟨r.id, r.prio, r.snet, r.sbits, r.dnet, r.dbits, r.proto, r.low, r.high, z⟩ wu) := d1
        clear d1 HT
        go_wp2_with (first | (refine wpList_load_row rfl 32 (.tmp 5) rfl B rfl _ _ _ _ H8.out.rt Try.underlying32 rfl (by kernel_rfl) ?_) | (refine wpList_store_row rfl 32 (.tmp 2) (.tmp 94) rfl w.heap.size _ rfl rfl _ _ H8.out.res (by kernel_rfl) rfl (oneU _ _ _ _ _ _ _ _ _ _) ?_))
        exact H8.out.done rfl rfl
  refine region_draws (by kernel_rfl) (by kernel_rfl) (by kernel_rfl) (by kernel_rfl) (fun w' => Cur W bc ac len cap w' ∧ Keep bc w3 w') (Keep bc) (ruPr w3 bc B3 B4) ruPr_keep ?h0 ?step ?last
  case h0 => exact ⟨H3.out.1.drew, (Keep.refl _ _).drew⟩
  case step =>
    intro i o hi ho a w2 hk hI hp
    have t0 : a.tmps.getD 0 undef = .pointer (some ⟨bc, 0, none⟩) := hk.slot 0 (by kernel_rfl)
    have t3 : a.tmps.getD 3 undef = .pointer (some ⟨B3, 0, none⟩) := hk.slot 3 (by kernel_rfl)
    have t4 : a.tmps.getD 4 undef = .pointer (some ⟨B4, 0, none⟩) := hk.slot 4 (by kernel_rfl)
    have t3' : a.tmps[3]?.getD undef = .pointer (some ⟨B3, 0, none⟩) := by simpa using t3
    have t4' : a.tmps[4]?.getD undef = .pointer (some ⟨B4, 0, none⟩) := by simpa using t4
    have b3 := H3.out.2.2.2.2.1.keep (fun e => H3.out.2.2.2.2.2.2.1 e.symm) hI.2
    have b4 := H3.out.2.2.2.2.2.1.keep (fun e => H3.out.2.2.2.2.2.2.2 e.symm) hI.2
    have hcases : i = 0 ∨ i = 1 ∨ i = 2 ∨ i = 3 ∨ i = 4 ∨ i = 5 ∨ i = 6 ∨ i = 7 ∨ i = 8 ∨ i = 9 ∨ i = 10 ∨ i = 11 ∨ i = 12 ∨ i = 13 ∨ i = 14 ∨ i = 15 ∨ i = 16 ∨ i = 17 ∨ i = 18 ∨ i = 19 ∨ i = 20 ∨ i = 21 ∨ i = 22 ∨ i = 23 := by
      have : i + 1 < 25 := hi
      omega
    rcases hcases with rfl | rfl | rfl | rfl | rfl | rfl | rfl | rfl | rfl | rfl | rfl | rfl | rfl | rfl | rfl | rfl | rfl | rfl | rfl | rfl | rfl | rfl | rfl | rfl
    · cases ho
      exact ⟨rfl, op_move 0 rfl ⟨_, rfl, Keep.refl _ _, hI, t0⟩⟩
    · cases ho
      exact ⟨rfl, op_belowU hc 10 20 (by omega) rfl (hp ⟨0, .data⟩ 10 (by simp) rfl rfl) hI.1 fun x w' x0 x1 c k => ⟨_, rfl, k, ⟨c, hI.2.trans k⟩, x, rfl, fun _ => by omega⟩⟩
    · cases ho
      obtain ⟨x, hx, -⟩ := hp ⟨1, .data⟩ 11 (by simp) rfl rfl
      have hx' : a.tmps[11]?.getD undef = .int .i64 x := by simpa using hx
      refine ⟨rfl, ?_⟩
      unfold Oper.wp
      simp [go_sem, hx']
      exact ⟨_, rfl, Keep.refl _ _, hI, _, rfl, fun h => by omega⟩
    · cases ho
      exact ⟨rfl, op_move 0 rfl ⟨_, rfl, Keep.refl _ _, hI, t0⟩⟩
    · cases ho
      exact ⟨rfl, op_belowU hc 13 4 (by omega) rfl (hp ⟨3, .data⟩ 13 (by simp) rfl rfl) hI.1 fun x w' x0 x1 c k => ⟨_, rfl, k, ⟨c, hI.2.trans k⟩, x, rfl, fun _ => by omega⟩⟩
    · cases ho
      refine ⟨rfl, ?_⟩
      unfold Oper.wp
      simp [go_sem, t3']
      exact ⟨_, rfl, Keep.refl _ _, hI, rfl⟩
    · cases ho
      have e : a.tmps[15]?.getD undef = .pointer (some ⟨B3, 0, none⟩) := by simpa [ruPr] using hp ⟨5, .data⟩ 15 (by simp) rfl rfl
      have cc := b3.cell 0 rfl
      refine ⟨rfl, ?_⟩
      unfold Oper.wp
      simp [go_sem, e, cc]
      exact ⟨_, rfl, Keep.refl _ _, hI, _, rfl, fun h => by omega⟩
    · cases ho
      refine ⟨rfl, ?_⟩
      unfold Oper.wp
      simp [go_sem, t3']
      exact ⟨_, rfl, Keep.refl _ _, hI, rfl⟩
    · cases ho
      have e : a.tmps[17]?.getD undef = .pointer (some ⟨B3, 1, none⟩) := by simpa [ruPr] using hp ⟨7, .data⟩ 17 (by simp) rfl rfl
      have cc := b3.cell 1 rfl
      refine ⟨rfl, ?_⟩
      unfold Oper.wp
      simp [go_sem, e, cc]
      exact ⟨_, rfl, Keep.refl _ _, hI, _, rfl, fun h => by omega⟩
    · cases ho
      refine ⟨rfl, ?_⟩
      unfold Oper.wp
      simp [go_sem, t4']
      exact ⟨_, rfl, Keep.refl _ _, hI, rfl⟩
    · cases ho
      have e : a.tmps[19]?.getD undef = .pointer (some ⟨B4, 0, none⟩) := by simpa [ruPr] using hp ⟨9, .data⟩ 19 (by simp) rfl rfl
      have cc := b4.cell 0 rfl
      refine ⟨rfl, ?_⟩
      unfold Oper.wp
      simp [go_sem, e, cc]
      exact ⟨_, rfl, Keep.refl _ _, hI, _, rfl, fun h => by omega⟩
    · cases ho
      refine ⟨rfl, ?_⟩
      unfold Oper.wp
      simp [go_sem, t4']
      exact ⟨_, rfl, Keep.refl _ _, hI, rfl⟩
    · cases ho
      have e : a.tmps[21]?.getD undef = .pointer (some ⟨B4, 1, none⟩) := by simpa [ruPr] using hp ⟨11, .data⟩ 21 (by simp) rfl rfl
      have cc := b4.cell 1 rfl
      refine ⟨rfl, ?_⟩
      unfold Oper.wp
      simp [go_sem, e, cc]
      exact ⟨_, rfl, Keep.refl _ _, hI, _, rfl, fun h => by omega⟩
    · cases ho
      refine ⟨rfl, ?_⟩
      unfold Oper.wp
      simp [go_sem]
      exact ⟨_, rfl, (Keep.refl _ _).alloc _, ⟨hI.1.alloc _, hI.2.alloc _⟩, _, rfl, hI.1.ne, Boxed.new w2 ruTab 2⟩
    · cases ho
      exact ⟨rfl, op_move 0 rfl ⟨_, rfl, Keep.refl _ _, hI, t0⟩⟩
    · cases ho
      exact ⟨rfl, op_belowU hc 24 4 (by omega) rfl (hp ⟨14, .data⟩ 24 (by simp) rfl rfl) hI.1 fun x w' x0 x1 c k => ⟨_, rfl, k, ⟨c, hI.2.trans k⟩, x, rfl, fun _ => ⟨x0, x1⟩⟩⟩
    · cases ho
      obtain ⟨B, hB, hne, hb⟩ := hp ⟨13, .data⟩ 23 (by simp) rfl rfl
      obtain ⟨y, hy, hy2⟩ := hp ⟨15, .data⟩ 25 (by simp) rfl rfl
      obtain ⟨y0, y1⟩ := hy2 rfl
      have hB' : a.tmps[23]?.getD undef = .slice (some ⟨B, 0, none⟩) 4 4 := by simpa using hB
      have hy' : a.tmps[25]?.getD undef = .int .i64 y := by simpa using hy
      refine ⟨rfl, ?_⟩
      unfold Oper.wp
      simp [go_sem, hB', hy', y0, y1]
      exact ⟨_, rfl, Keep.refl _ _, hI, B, y.toNat, rfl, by omega, hne, hb⟩
    · cases ho
      obtain ⟨B, j, hB, hj, hne, hb⟩ := hp ⟨16, .data⟩ 26 (by simp) rfl rfl
      have hB' : a.tmps[26]?.getD undef = .pointer (some ⟨B, j, none⟩) := by simpa using hB
      obtain ⟨z, hz⟩ : ∃ z : Int, w2.cell? ⟨B, j, none⟩ = some (.int .i64 z) := by
        have hj3 : j = 0 ∨ j = 1 ∨ j = 2 ∨ j = 3 := by omega
        rcases hj3 with rfl | rfl | rfl | rfl
        · exact ⟨_, hb.cell 0 rfl⟩
        · exact ⟨_, hb.cell 1 rfl⟩
        · exact ⟨_, hb.cell 2 rfl⟩
        · exact ⟨_, hb.cell 3 rfl⟩
      refine ⟨rfl, ?_⟩
      unfold Oper.wp
      simp [go_sem, hB', hz]
      exact ⟨_, rfl, Keep.refl _ _, hI, z, rfl, fun h => by omega⟩
    · cases ho
      exact ⟨rfl, op_move 0 rfl ⟨_, rfl, Keep.refl _ _, hI, t0⟩⟩
    · cases ho
      exact ⟨rfl, op_belowU hc 28 120 (by omega) rfl (hp ⟨18, .data⟩ 28 (by simp) rfl rfl) hI.1 fun x w' x0 x1 c k => ⟨_, rfl, k, ⟨c, hI.2.trans k⟩, x, rfl, fun _ => by omega⟩⟩
    · cases ho
      exact ⟨rfl, op_move 0 rfl ⟨_, rfl, Keep.refl _ _, hI, t0⟩⟩
    · cases ho
      exact ⟨rfl, op_belowU hc 30 5 (by omega) rfl (hp ⟨20, .data⟩ 30 (by simp) rfl rfl) hI.1 fun x w' x0 x1 c k => ⟨_, rfl, k, ⟨c, hI.2.trans k⟩, x, rfl, fun _ => by omega⟩⟩
    · cases ho
      obtain ⟨x0, ex0, -⟩ := hp ⟨2, .data⟩ 12 (by simp) rfl rfl
      obtain ⟨x1, ex1, -⟩ := hp ⟨4, .data⟩ 14 (by simp) rfl rfl
      obtain ⟨x2, ex2, -⟩ := hp ⟨6, .data⟩ 16 (by simp) rfl rfl
      obtain ⟨x3, ex3, -⟩ := hp ⟨8, .data⟩ 18 (by simp) rfl rfl
      obtain ⟨x4, ex4, -⟩ := hp ⟨10, .data⟩ 20 (by simp) rfl rfl
      obtain ⟨x5, ex5, -⟩ := hp ⟨12, .data⟩ 22 (by simp) rfl rfl
      obtain ⟨x6, ex6, -⟩ := hp ⟨17, .data⟩ 27 (by simp) rfl rfl
      obtain ⟨x7, ex7, -⟩ := hp ⟨19, .data⟩ 29 (by simp) rfl rfl
      obtain ⟨x9, ex9, -⟩ := hp ⟨21, .data⟩ 31 (by simp) rfl rfl
      have fx0 : a.tmps[12]?.getD undef = .int .i64 x0 := by simpa using ex0
      have fx1 : a.tmps[14]?.getD undef = .int .i64 x1 := by simpa using ex1
      have fx2 : a.tmps[16]?.getD undef = .int .i64 x2 := by simpa using ex2
      have fx3 : a.tmps[18]?.getD undef = .int .i64 x3 := by simpa using ex3
      have fx4 : a.tmps[20]?.getD undef = .int .i64 x4 := by simpa using ex4
      have fx5 : a.tmps[22]?.getD undef = .int .i64 x5 := by simpa using ex5
      have fx6 : a.tmps[27]?.getD undef = .int .i64 x6 := by simpa using ex6
      have fx7 : a.tmps[29]?.getD undef = .int .i64 x7 := by simpa using ex7
      have fx9 : a.tmps[31]?.getD undef = .int .i64 x9 := by simpa using ex9
      refine ⟨rfl, ?_⟩
      unfold Oper.wp
      simp [go_sem, fx0, fx1, fx2, fx3, fx4, fx5, fx6, fx7, fx9]
      exact ⟨_, rfl, Keep.refl _ _, hI, ⟨x0, x1, x2, x3, x4, x5, x6, x7, 0, x9⟩, rfl⟩
    · cases ho
      refine ⟨rfl, ?_⟩
      unfold Oper.wp
      simp [go_sem]
      exact ⟨_, rfl, (Keep.refl _ _).alloc _, ⟨hI.1.alloc _, hI.2.alloc _⟩, w2.heap.size, rfl, hI.1.ne, hI.2.size, Boxed.new w2 zeroRu 32⟩
  case last =>
    intro o ho a w2 hk hI hp
    cases ho
    obtain ⟨r, e⟩ := hp 22 32 (by decide) rfl
    obtain ⟨B, eB, hne, hlo, hb⟩ := hp 23 5 (by decide) rfl
    refine ⟨rfl, wp_store_row 32 (.tmp 5) (.tmp 32) rfl B _ eB e _ _ hb (by kernel_rfl) rfl (oneU _ _ _ _ _ _ _ _ _ _) ?_⟩
    clear hp e
    show Exit.then _ _ .normal a _
    have ha : a = { tmps := #[.pointer (some ⟨bc, 0, none⟩), undef, .pointer (some ⟨w.heap.size, 0, none⟩), .pointer (some ⟨B3, 0, none⟩), .pointer (some ⟨B4, 0, none⟩), a.tmps.getD 5 undef, .pointer (some ⟨bc, 0, none⟩), .agg #[.int .i64 r1.net, .int .i64 r1.bits, .int .i64 r1.hop], .pointer (some ⟨bc, 0, none⟩), .agg #[.int .i64 r2.net, .int .i64 r2.bits, .int .i64 r2.hop], a.tmps.getD 10 undef, a.tmps.getD 11 undef, a.tmps.getD 12 undef, a.tmps.getD 13 undef, a.tmps.getD 14 undef, a.tmps.getD 15 undef, a.tmps.getD 16 undef, a.tmps.getD 17 undef, a.tmps.getD 18 undef, a.tmps.getD 19 undef, a.tmps.getD 20 undef, a.tmps.getD 21 undef, a.tmps.getD 22 undef, a.tmps.getD 23 undef, a.tmps.getD 24 undef, a.tmps.getD 25 undef, a.tmps.getD 26 undef, a.tmps.getD 27 undef, a.tmps.getD 28 undef, a.tmps.getD 29 undef, a.tmps.getD 30 undef, a.tmps.getD 31 undef, a.tmps.getD 32 undef, undef, undef, undef, undef, undef, undef, undef, undef, undef, undef, undef, undef, undef, undef, undef, undef, undef, undef, undef, undef, undef, undef, undef, undef, undef, undef, undef, undef, undef, undef, undef, undef, undef, undef, undef, undef, undef, undef, undef, undef, undef, undef, undef, undef, undef, undef, undef, undef, undef, undef, undef, undef, undef, undef, undef, undef, undef, undef, undef, undef, undef, undef], defers := [] } := hk.act.trans (by kernel_rfl)
    rw [eB] at ha
    clear eB hk
    generalize a.tmps.getD 10 undef = u10 at ha
    generalize a.tmps.getD 11 undef = u11 at ha
    generalize a.tmps.getD 12 undef = u12 at ha
    generalize a.tmps.getD 13 undef = u13 at ha
    generalize a.tmps.getD 14 undef = u14 at ha
    generalize a.tmps.getD 15 undef = u15 at ha
    generalize a.tmps.getD 16 undef = u16 at ha
    generalize a.tmps.getD 17 undef = u17 at ha
    generalize a.tmps.getD 18 undef = u18 at ha
    generalize a.tmps.getD 19 undef = u19 at ha
    generalize a.tmps.getD 20 undef = u20 at ha
    generalize a.tmps.getD 21 undef = u21 at ha
    generalize a.tmps.getD 22 undef = u22 at ha
    generalize a.tmps.getD 23 undef = u23 at ha
    generalize a.tmps.getD 24 undef = u24 at ha
    generalize a.tmps.getD 25 undef = u25 at ha
    generalize a.tmps.getD 26 undef = u26 at ha
    generalize a.tmps.getD 27 undef = u27 at ha
    generalize a.tmps.getD 28 undef = u28 at ha
    generalize a.tmps.getD 29 undef = u29 at ha
    generalize a.tmps.getD 30 undef = u30 at ha
    generalize a.tmps.getD 31 undef = u31 at ha
    generalize a.tmps.getD 32 undef = u32 at ha
    rw [ha]
    clear ha
    go_wp2_with fail
    go_meet
    have hB : Boxed (w2.setRow B #[.int .i64 r.id, .int .i64 r.prio, .int .i64 r.snet, .int .i64 r.sbits, .int .i64 r.dnet, .int .i64 r.dbits, .int .i64 r.proto, .int .i64 r.low, .int .i64 r.high, .int .i64 r.cls]) B _ _ := setRow_heap w2 B _ _ _ _ hb
    have hlo' : w.heap.size < B := Nat.lt_of_lt_of_le H3.out.2.2.2.1 hlo
    have ho2 : ∀ k, k ≠ B → (w2.setRow B #[.int .i64 r.id, .int .i64 r.prio, .int .i64 r.snet, .int .i64 r.sbits, .int .i64 r.dnet, .int .i64 r.dbits, .int .i64 r.proto, .int .i64 r.low, .int .i64 r.high, .int .i64 r.cls]).heap[k]? = w2.heap[k]? := fun k hk => setRow_other _ _ _ _ hk
    have hcl := hI.1.lo
    have hcs := hI.1.bel.size
    have hW := cur.out.bel.size
    refine ⟨B, r, rfl, hB, ?_, hI.1.other hne ho2 (below_setRow (Below.refl _ _) (by have := cur.out.bel.size; omega) _), ?_, hlo', hbc⟩
    · unfold Boxed
      rw [ho2 _ (by omega)]
      exact H3.out.2.2.1.keep (by omega) hI.2
    · refine ⟨by have h1 := hI.2.size; have h2 := H3.out.2.1.size; rw [size_setRow]; omega, fun k h1 h2 => ?_⟩
      rw [ho2 k (by omega), hI.2.block k h1 (by have := H3.out.2.1.size; omega)]
      exact H3.out.2.1.block k h1 h2
end Go.Proofs.Ytdifegaokdoleaa

/-
  The model's drawing of a line and of a size. By the verifier.
-/
import Derived.Test.YthnooglgppboeaaDrawRec
import Derived.Test.YthnooglgppboeaaLnPlain
import Derived.Deep.DeepCutAuto
namespace Go.Proofs.Ythnooglgppboeaa
open Go.RowKit

set_option maxHeartbeats 3200000 in
set_option maxRecDepth 100000 in
theorem drawLine {W : World} {bc : Nat} {a : Option Addr} {len cap : Nat} (hc : Hid (Code W a len)) (w : World) (cur : Hid (Cur W bc a len cap w)) :
    Calls Try.prog 15 #[.pointer (some ⟨bc, 0, none⟩)] w fun e w' => (∃ v, e = .returned v ∧ ∃ l : Ln, v = l.val) ∧ Cur W bc a len cap w' ∧ Keep bc w w' := by
  have hbc := cur.out.lt
  go_enter Try.func15, Try.ntmps15
  go_wp2_with fail
  refine (drawBelow hc 3 (by omega) _ (cur.out.alloc _)).mono ?_
  rintro e w1 ⟨⟨x, rfl, x0, x1⟩, c1, k1⟩
  have H1 : Hid (Cur W bc a len cap w1 ∧ Keep bc (w.alloc (.cells #[.int .i64 0, .int .i64 0, .int .i64 0] 25)) w1) := ⟨c1, k1⟩
  clear c1 k1
  go_wp2_with fail
  refine (drawBelow hc 30 (by omega) _ H1.out.1).mono ?_
  rintro e w2 ⟨⟨y, rfl, y0, y1⟩, c2, k2⟩
  have H2 : Hid (Cur W bc a len cap w2 ∧ Keep bc (w.alloc (.cells #[.int .i64 0, .int .i64 0, .int .i64 0] 25)) w2) := ⟨c2, H1.out.2.trans k2⟩
  clear c2 k2 H1
  go_wp2_with fail
  refine (drawBelow hc 3 (by omega) _ (H2.out.1.alloc _)).mono ?_
  rintro e w3 ⟨⟨z, rfl, z0, z1⟩, c3, k3⟩
  obtain ⟨jt, rfl⟩ := Int.eq_ofNat_of_zero_le z0
  have hj := tab [0, 64, 84] _ _ rfl H2.out.1.ne k3 jt (by simp; omega)
  have hs2 : w.heap.size < w3.heap.size := by have := H2.out.2.size; have := k3.size; simp at *; omega
  have H3 : Hid (∀ k m : Int, DrX 25 #[.int .i64 0, .int .i64 0, .int .i64 0] W bc a len cap w w.heap.size w3.heap.size #[.int .i64 k, .int .i64 y, .int .i64 m] (w3.alloc (.cells #[.int .i64 k, .int .i64 y, .int .i64 m] 25))) := by
    intro k m
    have kk : Keep bc (w.alloc (.cells #[.int .i64 0, .int .i64 0, .int .i64 0] 25)) w3 := H2.out.2.trans (((Keep.refl _ w2).alloc _).trans k3)
    exact ⟨Boxed.new _ _ _, ((Boxed.new w #[.int .i64 0, .int .i64 0, .int .i64 0] 25).keep (by omega) kk).more _, c3.alloc _, (((Keep.refl _ w).alloc _).trans kk).alloc _, Nat.le_refl _, hs2, hbc⟩
  clear c3 k3 H2
  generalize ([0, 64, 84] : List Int)[jt]?.getD 0 = m at hj
  go_wp2_with fail
  have H4 := H3.out (1 + x) m
  generalize w3.alloc (.cells #[.int .i64 (1 + x), .int .i64 y, .int .i64 m] 25) = w4 at H4 ⊢
  generalize w3.heap.size = B at H4 hs2 ⊢
  generalize 1 + x = kk at H4 ⊢
  clear H3 hj
  have H5 : Hid _ := H4
  clear H4
  refine (drawOnce hc 12 (by omega) _ H5.out.cur).mono ?_
  rintro e w5 ⟨⟨bo, rfl⟩, c5, k5⟩
  have H6 : Hid (DrX 25 #[.int .i64 0, .int .i64 0, .int .i64 0] W bc a len cap w w.heap.size B #[.int .i64 kk, .int .i64 y, .int .i64 m] w5) := H5.out.draw c5 k5
  clear c5 k5 H5
  cases bo
  · go_wp2_with (first | (refine wpList_load_row rfl 25 (.tmp 3) rfl B rfl _ _ _ _ H6.out.rt Try.underlying25 rfl (by kernel_rfl) ?_) | (refine wpList_store_row rfl 25 (.tmp 2) (.tmp 43) rfl w.heap.size _ rfl rfl _ _ H6.out.res (by kernel_rfl) rfl (ones3 _ _ _) ?_))
    exact H6.out.done Try.results15 rfl rfl Try.underlying25 (by kernel_rfl) ⟨⟨_, _, _⟩, rfl⟩
  · go_wp2_with fail
    refine (drawBelow hc 3 (by omega) _ H6.out.cur).mono ?_
    rintro e w7 ⟨⟨q, rfl, q0, q1⟩, c7, k7⟩
    have H7 : Hid (DrX 25 #[.int .i64 0, .int .i64 0, .int .i64 0] W bc a len cap w w.heap.size B #[.int .i64 kk, .int .i64 y, .int .i64 m] w7) := H6.out.draw c7 k7
    clear c7 k7 H6
    have hq : q = 0 ∨ q = 1 ∨ q = 2 := by omega
    clear q0 q1
    rcases hq with rfl | rfl | rfl
    · go_wp2_with fail
      refine (drawBelow hc 2 (by omega) _ (H7.out.cur.alloc _)).mono ?_
      rintro e wt ⟨⟨y8, rfl, yy0, yy1⟩, ct, kt⟩
      obtain ⟨jt, rfl⟩ := Int.eq_ofNat_of_zero_le yy0
      have hj := tab [0, 4] _ _ rfl H7.out.cur.ne kt jt (by simp; omega)
      have HT : Hid (DrX 25 #[.int .i64 0, .int .i64 0, .int .i64 0] W bc a len cap w w.heap.size B #[.int .i64 kk, .int .i64 y, .int .i64 m] wt) := (H7.out.more _).draw ct kt
      clear ct kt H7
      generalize ([0, 4] : List Int)[jt]?.getD 0 = z at hj
      have c1 : wt.cell? ⟨B, 0, none⟩ = some _ := HT.out.rt.cell 0 rfl
      have i1 := HT.out.rt.ice 0
      go_upto_region 10 with fail
      clear c1 i1 hj
      have d1 := HT.out.put (cs' := #[.int .i64 z, .int .i64 y, .int .i64 m]) 0 (.int .i64 z) rfl
      generalize wt.setCell ⟨B, 0, none⟩ (.int .i64 z) = wu at d1 ⊢
      have H8 : Hid (DrX 25 #[.int .i64 0, .int .i64 0, .int .i64 0] W bc a len cap w w.heap.size B #[.int .i64 z, .int .i64 y, .int .i64 m] wu) := d1
      clear d1 HT
      go_wp2_with (first | (refine wpList_load_row rfl 25 (.tmp 3) rfl B rfl _ _ _ _ H8.out.rt Try.underlying25 rfl (by kernel_rfl) ?_) | (refine wpList_store_row rfl 25 (.tmp 2) (.tmp 43) rfl w.heap.size _ rfl rfl _ _ H8.out.res (by kernel_rfl) rfl (ones3 _ _ _) ?_))
      exact H8.out.done Try.results15 rfl rfl Try.underlying25 (by kernel_rfl) ⟨⟨_, _, _⟩, rfl⟩
    · go_wp2_with fail
      refine (drawBelow hc 3 (by omega) _ (H7.out.cur.alloc _)).mono ?_
      rintro e wt ⟨⟨y8, rfl, yy0, yy1⟩, ct, kt⟩
      obtain ⟨jt, rfl⟩ := Int.eq_ofNat_of_zero_le yy0
      have hj := tab [-1, 100, 101] _ _ rfl H7.out.cur.ne kt jt (by simp; omega)
      have HT : Hid (DrX 25 #[.int .i64 0, .int .i64 0, .int .i64 0] W bc a len cap w w.heap.size B #[.int .i64 kk, .int .i64 y, .int .i64 m] wt) := (H7.out.more _).draw ct kt
      clear ct kt H7
      generalize ([-1, 100, 101] : List Int)[jt]?.getD 0 = z at hj
      have c1 : wt.cell? ⟨B, 1, none⟩ = some _ := HT.out.rt.cell 1 rfl
      have i1 := HT.out.rt.ice 1
      go_upto_region 10 with fail
      clear c1 i1 hj
      have d1 := HT.out.put (cs' := #[.int .i64 kk, .int .i64 z, .int .i64 m]) 1 (.int .i64 z) rfl
      generalize wt.setCell ⟨B, 1, none⟩ (.int .i64 z) = wu at d1 ⊢
      have H8 : Hid (DrX 25 #[.int .i64 0, .int .i64 0, .int .i64 0] W bc a len cap w w.heap.size B #[.int .i64 kk, .int .i64 z, .int .i64 m] wu) := d1
      clear d1 HT
      go_wp2_with (first | (refine wpList_load_row rfl 25 (.tmp 3) rfl B rfl _ _ _ _ H8.out.rt Try.underlying25 rfl (by kernel_rfl) ?_) | (refine wpList_store_row rfl 25 (.tmp 2) (.tmp 43) rfl w.heap.size _ rfl rfl _ _ H8.out.res (by kernel_rfl) rfl (ones3 _ _ _) ?_))
      exact H8.out.done Try.results15 rfl rfl Try.underlying25 (by kernel_rfl) ⟨⟨_, _, _⟩, rfl⟩
    · go_wp2_with fail
      refine (drawBelow hc 3 (by omega) _ (H7.out.cur.alloc _)).mono ?_
      rintro e wt ⟨⟨y8, rfl, yy0, yy1⟩, ct, kt⟩
      obtain ⟨jt, rfl⟩ := Int.eq_ofNat_of_zero_le yy0
      have hj := tab [-1, 2000, 2001] _ _ rfl H7.out.cur.ne kt jt (by simp; omega)
      have HT : Hid (DrX 25 #[.int .i64 0, .int .i64 0, .int .i64 0] W bc a len cap w w.heap.size B #[.int .i64 kk, .int .i64 y, .int .i64 m] wt) := (H7.out.more _).draw ct kt
      clear ct kt H7
      generalize ([-1, 2000, 2001] : List Int)[jt]?.getD 0 = z at hj
      have c1 : wt.cell? ⟨B, 2, none⟩ = some _ := HT.out.rt.cell 2 rfl
      have i1 := HT.out.rt.ice 2
      go_upto_region 10 with fail
      clear c1 i1 hj
      have d1 := HT.out.put (cs' := #[.int .i64 kk, .int .i64 y, .int .i64 z]) 2 (.int .i64 z) rfl
      generalize wt.setCell ⟨B, 2, none⟩ (.int .i64 z) = wu at d1 ⊢
      have H8 : Hid (DrX 25 #[.int .i64 0, .int .i64 0, .int .i64 0] W bc a len cap w w.heap.size B #[.int .i64 kk, .int .i64 y, .int .i64 z] wu) := d1
      clear d1 HT
      go_wp2_with (first | (refine wpList_load_row rfl 25 (.tmp 3) rfl B rfl _ _ _ _ H8.out.rt Try.underlying25 rfl (by kernel_rfl) ?_) | (refine wpList_store_row rfl 25 (.tmp 2) (.tmp 43) rfl w.heap.size _ rfl rfl _ _ H8.out.res (by kernel_rfl) rfl (ones3 _ _ _) ?_))
      exact H8.out.done Try.results15 rfl rfl Try.underlying25 (by kernel_rfl) ⟨⟨_, _, _⟩, rfl⟩

set_option maxHeartbeats 1600000 in
theorem drawSize {W : World} {bc : Nat} {a : Option Addr} {len cap : Nat} (hc : Hid (Code W a len)) (w : World) (cur : Hid (Cur W bc a len cap w)) :
    Calls Try.prog 16 #[.pointer (some ⟨bc, 0, none⟩)] w fun e w' => (∃ n : Int, e = .returned (.int .i64 n) ∧ -1 ≤ n ∧ n ≤ 100001) ∧ Cur W bc a len cap w' ∧ Keep bc w w' := by
  go_enter Try.func16, Try.ntmps16
  go_wp2_with fail
  refine (drawOnce hc 8 (by omega) _ cur.out).mono ?_
  rintro e w1 ⟨⟨bo, rfl⟩, c1, k1⟩
  have H1 : Hid (Cur W bc a len cap w1 ∧ Keep bc w w1) := ⟨c1, k1⟩
  clear c1 k1 cur
  cases bo
  · go_wp2_with fail
    refine (drawBelow hc 1600 (by omega) _ H1.out.1).mono ?_
    rintro e w2 ⟨⟨x, rfl, x0, x1⟩, c2, k2⟩
    have H2 : Hid (Cur W bc a len cap w2 ∧ Keep bc w w2) := ⟨c2, H1.out.2.trans k2⟩
    clear c2 k2 H1
    go_wp2
    go_ret
    exact ⟨⟨_, rfl, by omega, by omega⟩, H2.out⟩
  · go_wp2_with fail
    refine (drawBelow hc 6 (by omega) _ (H1.out.1.alloc _)).mono ?_
    rintro e w2 ⟨⟨x, rfl, x0, x1⟩, c2, k2⟩
    obtain ⟨jt, rfl⟩ := Int.eq_ofNat_of_zero_le x0
    have hj := tab [-1, 0, 100000, 100001, 48, 47] _ _ rfl H1.out.1.ne k2 jt (by simp; omega)
    have hb := tab_in [-1, 0, 100000, 100001, 48, 47] (-1) 100001 (by decide) jt (by simp; omega)
    have H2 : Hid (Cur W bc a len cap w2 ∧ Keep bc w w2) := ⟨c2, (H1.out.2.alloc _).trans k2⟩
    clear c2 k2 H1
    generalize ([-1, 0, 100000, 100001, 48, 47] : List Int)[jt]?.getD 0 = z at hj hb
    go_wp2
    go_ret
    exact ⟨⟨_, rfl, hb.1, hb.2⟩, H2.out⟩
end Go.Proofs.Ythnooglgppboeaa

/-
  The model's drawing of an item. By the verifier.
-/
import Derived.Test.YtleokmnhhhhcjaaM2DrawRec
import Derived.Test.YtleokmnhhhhcjaaItPlain
import Derived.Deep.DeepCutAuto
namespace Go.Proofs.Ytleokmnhhhhcjaa
open Go.RowKit

set_option maxHeartbeats 3200000 in
set_option maxRecDepth 100000 in
theorem drawItem {W : World} {bc : Nat} {a : Option Addr} {len cap : Nat} (hc : Hid (Code W a len)) (w : World) (cur : Hid (Cur W bc a len cap w)) :
    Calls Try.prog 22 #[.pointer (some ⟨bc, 0, none⟩)] w fun e w' => (∃ v, e = .returned v ∧ ∃ l : It, v = l.val) ∧ Cur W bc a len cap w' ∧ Keep bc w w' := by
  have hbc := cur.out.lt
  go_enter Try.func22, Try.ntmps22
  go_wp2_with fail
  refine (drawBelow hc 30 (by omega) _ (cur.out.alloc _)).mono ?_
  rintro e w1 ⟨⟨x, rfl, x0, x1⟩, c1, k1⟩
  have H1 : Hid (Cur W bc a len cap w1 ∧ Keep bc (w.alloc (.cells #[.int .i64 0, .int .i64 0, .int .i64 0] 28)) w1) := ⟨c1, k1⟩
  clear c1 k1
  go_wp2_with fail
  refine (drawBelow hc 99 (by omega) _ H1.out.1).mono ?_
  rintro e w2 ⟨⟨y, rfl, y0, y1⟩, c2, k2⟩
  have H2 : Hid (Cur W bc a len cap w2 ∧ Keep bc (w.alloc (.cells #[.int .i64 0, .int .i64 0, .int .i64 0] 28)) w2) := ⟨c2, H1.out.2.trans k2⟩
  clear c2 k2 H1
  go_wp2_with fail
  refine (drawBelow hc 50 (by omega) _ H2.out.1).mono ?_
  rintro e w3 ⟨⟨z, rfl, z0, z1⟩, c3, k3⟩
  have hs2 : w.heap.size < w3.heap.size := by have := H2.out.2.size; have := k3.size; simp at *; omega
  have H3 : Hid (∀ k l m : Int, DrX 28 #[.int .i64 0, .int .i64 0, .int .i64 0] W bc a len cap w w.heap.size w3.heap.size #[.int .i64 k, .int .i64 l, .int .i64 m] (w3.alloc (.cells #[.int .i64 k, .int .i64 l, .int .i64 m] 28))) := by
    intro k l m
    have kk : Keep bc (w.alloc (.cells #[.int .i64 0, .int .i64 0, .int .i64 0] 28)) w3 := H2.out.2.trans k3
    exact ⟨Boxed.new _ _ _, ((Boxed.new w #[.int .i64 0, .int .i64 0, .int .i64 0] 28).keep (by omega) kk).more _, c3.alloc _, (((Keep.refl _ w).alloc _).trans kk).alloc _, Nat.le_refl _, hs2, hbc⟩
  clear c3 k3 H2
  go_wp2_with fail
  have H4 := H3.out (1 + x) (1 + y) z
  generalize w3.alloc (.cells #[.int .i64 (1 + x), .int .i64 (1 + y), .int .i64 z] 28) = w4 at H4 ⊢
  generalize w3.heap.size = B at H4 hs2 ⊢
  generalize 1 + x = b0 at H4 ⊢
  generalize 1 + y = b1 at H4 ⊢
  obtain ⟨b2, rfl⟩ : ∃ b2, b2 = z := ⟨_, rfl⟩
  clear H3
  have H5 : Hid _ := H4
  clear H4
  refine (drawOnce hc 20 (by omega) _ H5.out.cur).mono ?_
  rintro e w5 ⟨⟨bo, rfl⟩, c5, k5⟩
  have H6 : Hid (DrX 28 #[.int .i64 0, .int .i64 0, .int .i64 0] W bc a len cap w w.heap.size B #[.int .i64 b0, .int .i64 b1, .int .i64 b2] w5) := H5.out.draw c5 k5
  clear c5 k5 H5
  cases bo
  · go_wp2_with (first | (refine wpList_load_row rfl 28 (.tmp 3) rfl B rfl _ _ _ _ H6.out.rt Try.underlying28 rfl (by kernel_rfl) ?_) | (refine wpList_store_row rfl 28 (.tmp 2) (.tmp 41) rfl w.heap.size _ rfl rfl _ _ H6.out.res (by kernel_rfl) rfl (ones3 _ _ _) ?_))
    exact H6.out.done Try.results22 rfl rfl Try.underlying28 (by kernel_rfl) ⟨⟨_, _, _⟩, rfl⟩
  · go_wp2_with fail
    refine (drawBelow hc 3 (by omega) _ H6.out.cur).mono ?_
    rintro e w7 ⟨⟨q, rfl, q0, q1⟩, c7, k7⟩
    have H7 : Hid (DrX 28 #[.int .i64 0, .int .i64 0, .int .i64 0] W bc a len cap w w.heap.size B #[.int .i64 b0, .int .i64 b1, .int .i64 b2] w7) := H6.out.draw c7 k7
    clear c7 k7 H6
    have hq : q = 0 ∨ q = 1 ∨ q = 2 := by omega
    clear q0 q1
    rcases hq with rfl | rfl | rfl
    · go_wp2_with fail
      refine (drawBelow hc 3 (by omega) _ (H7.out.cur.alloc _)).mono ?_
      rintro e wt ⟨⟨y8, rfl, yy0, yy1⟩, ct, kt⟩
      obtain ⟨jt, rfl⟩ := Int.eq_ofNat_of_zero_le yy0
      have hj := tab [0, 1000000, 1000001] _ _ rfl H7.out.cur.ne kt jt (by simp; omega)
      have HT : Hid (DrX 28 #[.int .i64 0, .int .i64 0, .int .i64 0] W bc a len cap w w.heap.size B #[.int .i64 b0, .int .i64 b1, .int .i64 b2] wt) := (H7.out.more _).draw ct kt
      clear ct kt H7
      generalize ([0, 1000000, 1000001] : List Int)[jt]?.getD 0 = z at hj
      have c1 : wt.cell? ⟨B, 0, none⟩ = some _ := HT.out.rt.cell 0 rfl
      have i1 := HT.out.rt.ice 0
      go_upto_region 10 with fail
      clear c1 i1 hj
      have d1 := HT.out.put (cs' := #[.int .i64 z, .int .i64 b1, .int .i64 b2]) 0 (.int .i64 z) rfl
      generalize wt.setCell ⟨B, 0, none⟩ (.int .i64 z) = wu at d1 ⊢
      have H8 : Hid (DrX 28 #[.int .i64 0, .int .i64 0, .int .i64 0] W bc a len cap w w.heap.size B #[.int .i64 z, .int .i64 b1, .int .i64 b2] wu) := d1
      clear d1 HT
      go_wp2_with (first | (refine wpList_load_row rfl 28 (.tmp 3) rfl B rfl _ _ _ _ H8.out.rt Try.underlying28 rfl (by kernel_rfl) ?_) | (refine wpList_store_row rfl 28 (.tmp 2) (.tmp 41) rfl w.heap.size _ rfl rfl _ _ H8.out.res (by kernel_rfl) rfl (ones3 _ _ _) ?_))
      exact H8.out.done Try.results22 rfl rfl Try.underlying28 (by kernel_rfl) ⟨⟨_, _, _⟩, rfl⟩
    · go_wp2_with fail
      refine (drawBelow hc 3 (by omega) _ (H7.out.cur.alloc _)).mono ?_
      rintro e wt ⟨⟨y8, rfl, yy0, yy1⟩, ct, kt⟩
      obtain ⟨jt, rfl⟩ := Int.eq_ofNat_of_zero_le yy0
      have hj := tab [0, 100000, 100001] _ _ rfl H7.out.cur.ne kt jt (by simp; omega)
      have HT : Hid (DrX 28 #[.int .i64 0, .int .i64 0, .int .i64 0] W bc a len cap w w.heap.size B #[.int .i64 b0, .int .i64 b1, .int .i64 b2] wt) := (H7.out.more _).draw ct kt
      clear ct kt H7
      generalize ([0, 100000, 100001] : List Int)[jt]?.getD 0 = z at hj
      have c1 : wt.cell? ⟨B, 1, none⟩ = some _ := HT.out.rt.cell 1 rfl
      have i1 := HT.out.rt.ice 1
      go_upto_region 10 with fail
      clear c1 i1 hj
      have d1 := HT.out.put (cs' := #[.int .i64 b0, .int .i64 z, .int .i64 b2]) 1 (.int .i64 z) rfl
      generalize wt.setCell ⟨B, 1, none⟩ (.int .i64 z) = wu at d1 ⊢
      have H8 : Hid (DrX 28 #[.int .i64 0, .int .i64 0, .int .i64 0] W bc a len cap w w.heap.size B #[.int .i64 b0, .int .i64 z, .int .i64 b2] wu) := d1
      clear d1 HT
      go_wp2_with (first | (refine wpList_load_row rfl 28 (.tmp 3) rfl B rfl _ _ _ _ H8.out.rt Try.underlying28 rfl (by kernel_rfl) ?_) | (refine wpList_store_row rfl 28 (.tmp 2) (.tmp 41) rfl w.heap.size _ rfl rfl _ _ H8.out.res (by kernel_rfl) rfl (ones3 _ _ _) ?_))
      exact H8.out.done Try.results22 rfl rfl Try.underlying28 (by kernel_rfl) ⟨⟨_, _, _⟩, rfl⟩
    · go_wp2_with fail
      refine (drawBelow hc 3 (by omega) _ (H7.out.cur.alloc _)).mono ?_
      rintro e wt ⟨⟨y8, rfl, yy0, yy1⟩, ct, kt⟩
      obtain ⟨jt, rfl⟩ := Int.eq_ofNat_of_zero_le yy0
      have hj := tab [-1, 1099511627776, 1099511627777] _ _ rfl H7.out.cur.ne kt jt (by simp; omega)
      have HT : Hid (DrX 28 #[.int .i64 0, .int .i64 0, .int .i64 0] W bc a len cap w w.heap.size B #[.int .i64 b0, .int .i64 b1, .int .i64 b2] wt) := (H7.out.more _).draw ct kt
      clear ct kt H7
      generalize ([-1, 1099511627776, 1099511627777] : List Int)[jt]?.getD 0 = z at hj
      have c1 : wt.cell? ⟨B, 2, none⟩ = some _ := HT.out.rt.cell 2 rfl
      have i1 := HT.out.rt.ice 2
      go_upto_region 10 with fail
      clear c1 i1 hj
      have d1 := HT.out.put (cs' := #[.int .i64 b0, .int .i64 b1, .int .i64 z]) 2 (.int .i64 z) rfl
      generalize wt.setCell ⟨B, 2, none⟩ (.int .i64 z) = wu at d1 ⊢
      have H8 : Hid (DrX 28 #[.int .i64 0, .int .i64 0, .int .i64 0] W bc a len cap w w.heap.size B #[.int .i64 b0, .int .i64 b1, .int .i64 z] wu) := d1
      clear d1 HT
      go_wp2_with (first | (refine wpList_load_row rfl 28 (.tmp 3) rfl B rfl _ _ _ _ H8.out.rt Try.underlying28 rfl (by kernel_rfl) ?_) | (refine wpList_store_row rfl 28 (.tmp 2) (.tmp 41) rfl w.heap.size _ rfl rfl _ _ H8.out.res (by kernel_rfl) rfl (ones3 _ _ _) ?_))
      exact H8.out.done Try.results22 rfl rfl Try.underlying28 (by kernel_rfl) ⟨⟨_, _, _⟩, rfl⟩
end Go.Proofs.Ytleokmnhhhhcjaa

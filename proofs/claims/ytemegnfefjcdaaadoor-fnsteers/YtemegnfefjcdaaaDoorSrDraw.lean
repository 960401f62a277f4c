/-
  The model's drawing of steers and delays. By the verifier, by program.
-/
import Derived.Test.YtemegnfefjcdaaaDoorDrawRec
import Derived.Test.YtemegnfefjcdaaaDoorSrRec
import Derived.Test.YtemegnfefjcdaaaDoorStepRow
import Derived.Test.YtemegnfefjcdaaaDoorDrawO
import Derived.Test.YtemegnfefjcdaaaDoorDrawPow
import Derived.Deep.DeepCutAuto
namespace Go.Proofs.YtemegnfefjcdaaaDoor
open Go.RowKit

/-- Nothing is wanted of the numbers of a drawn steer. -/
def Sr.drawn (_ : Sr) : Prop := True

set_option maxHeartbeats 6400000 in
set_option maxRecDepth 100000 in
theorem drawSteer {W : World} {bc : Nat} {a : Option Addr} {len cap : Nat} (hc : Hid (Code W a len)) (w : World) (cur : Hid (Cur W bc a len cap w)) :
    Calls Tryd.prog 23 #[.pointer (some ⟨bc, 0, none⟩)] w fun e w' => (∃ v, e = .returned v ∧ ∃ l : Sr, v = l.val ∧ l.drawn) ∧ Cur W bc a len cap w' ∧ Keep bc w w' := by
  have hbc := cur.out.lt
  go_enter Tryd.func23, Tryd.ntmps23
  go_wp2_with fail
  refine (drawBelow hc 40 (by omega) _ (cur.out.alloc _)).mono ?_
  rintro e w1 ⟨⟨x0, rfl, x00, x01⟩, c0, k0⟩
  have H1 : Hid (Cur W bc a len cap w1 ∧ Keep bc (w.alloc (.cells #[.int .i64 0, .int .i64 0, .int .i64 0] 25)) w1) := ⟨c0, k0⟩
  clear c0 k0
  go_wp2_with fail
  refine (drawBelow hc 90 (by omega) _ H1.out.1).mono ?_
  rintro e w2 ⟨⟨x1, rfl, x10, x11⟩, c1, k1⟩
  have H2 : Hid (Cur W bc a len cap w2 ∧ Keep bc (w.alloc (.cells #[.int .i64 0, .int .i64 0, .int .i64 0] 25)) w2) := ⟨c1, H1.out.2.trans k1⟩
  clear c1 k1 H1
  go_wp2_with fail
  refine (drawBelow hc 20 (by omega) _ H2.out.1).mono ?_
  rintro e w3 ⟨⟨x2, rfl, x20, x21⟩, c2, k2⟩
  have H3 : Hid (Cur W bc a len cap w3 ∧ Keep bc (w.alloc (.cells #[.int .i64 0, .int .i64 0, .int .i64 0] 25)) w3) := ⟨c2, H2.out.2.trans k2⟩
  clear c2 k2 H2
  have hp := pow_sm x20 x21
  have HP : Hid _ := hp
  clear hp
  go_wp2_with fail
  generalize wrap64 (2 ^ (1 + x2).toNat) = M at HP ⊢
  refine (drawBelow hc M HP.out _ H3.out.1).mono ?_
  rintro e w4 ⟨⟨x3, rfl, x30, x31⟩, c3, k3⟩
  have H4 : Hid (Cur W bc a len cap w4 ∧ Keep bc (w.alloc (.cells #[.int .i64 0, .int .i64 0, .int .i64 0] 25)) w4) := ⟨c3, H3.out.2.trans k3⟩
  clear c3 k3 H3
  have hs : w.heap.size < w4.heap.size := by have := H4.out.2.size; simp at *; omega
  clear HP x30 x31 x20 x21
  go_wp2_with fail
  have X : Hid (DrX 25 #[.int .i64 0, .int .i64 0, .int .i64 0] W bc a len cap w w.heap.size w4.heap.size #[.int .i64 (1 + x0), .int .i64 x1, .int .i64 x3] (w4.alloc (.cells #[.int .i64 (1 + x0), .int .i64 x1, .int .i64 x3] 25))) := by
    have kk := H4.out.2
    exact ⟨Boxed.new _ _ _, ((Boxed.new w #[.int .i64 0, .int .i64 0, .int .i64 0] 25).keep (by omega) kk).more _, H4.out.1.alloc _, (((Keep.refl _ w).alloc _).trans kk).alloc _, Nat.le_refl _, hs, hbc⟩
  generalize w4.alloc (.cells #[.int .i64 (1 + x0), .int .i64 x1, .int .i64 x3] 25) = wA at X ⊢
  generalize w4.heap.size = B at X hs ⊢
  obtain ⟨b0, hb0⟩ : ∃ z, z = (1 + x0) := ⟨_, rfl⟩
  rw [← hb0] at X ⊢
  clear hb0 x00 x01 x10 x11 hs H4
  refine (drawOnce hc 12 (by omega) _ X.out.cur).mono ?_
  rintro e wC ⟨⟨bo, rfl⟩, cC, kC⟩
  have XC : Hid (DrX 25 #[.int .i64 0, .int .i64 0, .int .i64 0] W bc a len cap w w.heap.size B #[.int .i64 b0, .int .i64 x1, .int .i64 x3] wC) := X.out.draw cC kC
  clear cC kC X
  cases bo
  · go_wp2_with (first | (refine wpList_load_row rfl 25 (.tmp 3) rfl B rfl _ _ _ _ XC.out.rt Tryd.underlying25 rfl (by kernel_rfl) ?_) | (refine wpList_store_row rfl 25 (.tmp 2) (.tmp 45) rfl w.heap.size _ rfl rfl _ _ XC.out.res (by kernel_rfl) rfl (srOnes _ _ _) ?_))
    exact XC.out.done Tryd.results23 rfl rfl Tryd.underlying25 (by kernel_rfl) ⟨⟨b0, x1, x3⟩, rfl, trivial⟩
  · go_wp2_with fail
    refine (drawBelow hc 3 (by omega) _ XC.out.cur).mono ?_
    rintro e wD ⟨⟨q, rfl, q0, q1⟩, cD, kD⟩
    have XD : Hid (DrX 25 #[.int .i64 0, .int .i64 0, .int .i64 0] W bc a len cap w w.heap.size B #[.int .i64 b0, .int .i64 x1, .int .i64 x3] wD) := XC.out.draw cD kD
    clear cD kD XC
    have hq : q = 0 ∨ q = 1 ∨ q = 2 := by omega
    clear q0 q1
    rcases hq with rfl | rfl | rfl
    · go_wp2_with fail
      refine (drawBelow hc 3 (by omega) _ (XD.out.cur.alloc _)).mono ?_
      rintro e wt ⟨⟨y8, rfl, yy0, yy1⟩, ct, kt⟩
      obtain ⟨jt, rfl⟩ := Int.eq_ofNat_of_zero_le yy0
      have hj := tab [0, 1000, 1001] _ _ rfl XD.out.cur.ne kt jt (by simp; omega)
      have HT : Hid (DrX 25 #[.int .i64 0, .int .i64 0, .int .i64 0] W bc a len cap w w.heap.size B #[.int .i64 b0, .int .i64 x1, .int .i64 x3] wt) := (XD.out.more _).draw ct kt
      clear ct kt XD
      generalize ([0, 1000, 1001] : List Int)[jt]?.getD 0 = z at hj
      have c1 : wt.cell? ⟨B, 0, none⟩ = some _ := HT.out.rt.cell 0 rfl
      have i1 := HT.out.rt.ice 0
      go_upto_region 10 with fail
      clear c1 i1 hj
      have d1 := HT.out.put (cs' := #[.int .i64 z, .int .i64 x1, .int .i64 x3]) 0 (.int .i64 z) rfl
      generalize wt.setCell ⟨B, 0, none⟩ (.int .i64 z) = wu at d1 ⊢
      have H8 : Hid (DrX 25 #[.int .i64 0, .int .i64 0, .int .i64 0] W bc a len cap w w.heap.size B #[.int .i64 z, .int .i64 x1, .int .i64 x3] wu) := d1
      clear d1 HT
      go_wp2_with (first | (refine wpList_load_row rfl 25 (.tmp 3) rfl B rfl _ _ _ _ H8.out.rt Tryd.underlying25 rfl (by kernel_rfl) ?_) | (refine wpList_store_row rfl 25 (.tmp 2) (.tmp 45) rfl w.heap.size _ rfl rfl _ _ H8.out.res (by kernel_rfl) rfl (srOnes _ _ _) ?_))
      exact H8.out.done Tryd.results23 rfl rfl Tryd.underlying25 (by kernel_rfl) ⟨⟨z, x1, x3⟩, rfl, trivial⟩
    · go_wp2_with fail
      refine (drawBelow hc 4 (by omega) _ (XD.out.cur.alloc _)).mono ?_
      rintro e wt ⟨⟨y8, rfl, yy0, yy1⟩, ct, kt⟩
      obtain ⟨jt, rfl⟩ := Int.eq_ofNat_of_zero_le yy0
      have hj := tab [-1, 100000, 100001, 0] _ _ rfl XD.out.cur.ne kt jt (by simp; omega)
      have HT : Hid (DrX 25 #[.int .i64 0, .int .i64 0, .int .i64 0] W bc a len cap w w.heap.size B #[.int .i64 b0, .int .i64 x1, .int .i64 x3] wt) := (XD.out.more _).draw ct kt
      clear ct kt XD
      generalize ([-1, 100000, 100001, 0] : List Int)[jt]?.getD 0 = z at hj
      have c1 : wt.cell? ⟨B, 1, none⟩ = some _ := HT.out.rt.cell 1 rfl
      have i1 := HT.out.rt.ice 1
      go_upto_region 10 with fail
      clear c1 i1 hj
      have d1 := HT.out.put (cs' := #[.int .i64 b0, .int .i64 z, .int .i64 x3]) 1 (.int .i64 z) rfl
      generalize wt.setCell ⟨B, 1, none⟩ (.int .i64 z) = wu at d1 ⊢
      have H8 : Hid (DrX 25 #[.int .i64 0, .int .i64 0, .int .i64 0] W bc a len cap w w.heap.size B #[.int .i64 b0, .int .i64 z, .int .i64 x3] wu) := d1
      clear d1 HT
      go_wp2_with (first | (refine wpList_load_row rfl 25 (.tmp 3) rfl B rfl _ _ _ _ H8.out.rt Tryd.underlying25 rfl (by kernel_rfl) ?_) | (refine wpList_store_row rfl 25 (.tmp 2) (.tmp 45) rfl w.heap.size _ rfl rfl _ _ H8.out.res (by kernel_rfl) rfl (srOnes _ _ _) ?_))
      exact H8.out.done Tryd.results23 rfl rfl Tryd.underlying25 (by kernel_rfl) ⟨⟨b0, z, x3⟩, rfl, trivial⟩
    · go_wp2_with fail
      refine (drawBelow hc 3 (by omega) _ (XD.out.cur.alloc _)).mono ?_
      rintro e wt ⟨⟨y8, rfl, yy0, yy1⟩, ct, kt⟩
      obtain ⟨jt, rfl⟩ := Int.eq_ofNat_of_zero_le yy0
      have hj := tab [-1, 1048576, 1048577] _ _ rfl XD.out.cur.ne kt jt (by simp; omega)
      have HT : Hid (DrX 25 #[.int .i64 0, .int .i64 0, .int .i64 0] W bc a len cap w w.heap.size B #[.int .i64 b0, .int .i64 x1, .int .i64 x3] wt) := (XD.out.more _).draw ct kt
      clear ct kt XD
      generalize ([-1, 1048576, 1048577] : List Int)[jt]?.getD 0 = z at hj
      have c1 : wt.cell? ⟨B, 2, none⟩ = some _ := HT.out.rt.cell 2 rfl
      have i1 := HT.out.rt.ice 2
      go_upto_region 10 with fail
      clear c1 i1 hj
      have d1 := HT.out.put (cs' := #[.int .i64 b0, .int .i64 x1, .int .i64 z]) 2 (.int .i64 z) rfl
      generalize wt.setCell ⟨B, 2, none⟩ (.int .i64 z) = wu at d1 ⊢
      have H8 : Hid (DrX 25 #[.int .i64 0, .int .i64 0, .int .i64 0] W bc a len cap w w.heap.size B #[.int .i64 b0, .int .i64 x1, .int .i64 z] wu) := d1
      clear d1 HT
      go_wp2_with (first | (refine wpList_load_row rfl 25 (.tmp 3) rfl B rfl _ _ _ _ H8.out.rt Tryd.underlying25 rfl (by kernel_rfl) ?_) | (refine wpList_store_row rfl 25 (.tmp 2) (.tmp 45) rfl w.heap.size _ rfl rfl _ _ H8.out.res (by kernel_rfl) rfl (srOnes _ _ _) ?_))
      exact H8.out.done Tryd.results23 rfl rfl Tryd.underlying25 (by kernel_rfl) ⟨⟨b0, x1, z⟩, rfl, trivial⟩

set_option maxHeartbeats 1600000 in
theorem drawDelay {W : World} {bc : Nat} {a : Option Addr} {len cap : Nat} (hc : Hid (Code W a len)) (w : World) (cur : Hid (Cur W bc a len cap w)) :
    Calls Tryd.prog 24 #[.pointer (some ⟨bc, 0, none⟩)] w fun e w' => (∃ x : Int, e = .returned (.int .i64 x) ∧ -1 ≤ x ∧ x ≤ 100001) ∧ Cur W bc a len cap w' ∧ Keep bc w w' := by
  go_enter Tryd.func24, Tryd.ntmps24
  go_wp2_with fail
  refine (drawOnce hc 8 (by omega) _ cur.out).mono ?_
  rintro e w1 ⟨⟨bo, rfl⟩, c1, k1⟩
  have H1 : Hid (Cur W bc a len cap w1 ∧ Keep bc w w1) := ⟨c1, k1⟩
  clear c1 k1
  cases bo
  · go_wp2_with fail
    refine (drawBelow hc 90 (by omega) _ H1.out.1).mono ?_
    rintro e w2 ⟨⟨x, rfl, x0, x1⟩, c2, k2⟩
    have H2 : Hid (Cur W bc a len cap w2 ∧ Keep bc w w2) := ⟨c2, H1.out.2.trans k2⟩
    clear c2 k2
    go_wp2
    go_ret
    exact ⟨⟨x, rfl, by omega, by omega⟩, H2.out⟩
  · go_wp2_with fail
    refine (drawBelow hc 4 (by omega) _ (H1.out.1.alloc _)).mono ?_
    rintro e wt ⟨⟨y8, rfl, yy0, yy1⟩, ct, kt⟩
    obtain ⟨jt, rfl⟩ := Int.eq_ofNat_of_zero_le yy0
    have hj := tab [-1, 0, 100000, 100001] _ _ rfl H1.out.1.ne kt jt (by simp; omega)
    have hz := tab_in [-1, 0, 100000, 100001] (-1) 100001 (by decide) jt (by simp; omega)
    have HT : Hid (Cur W bc a len cap wt ∧ Keep bc w wt) := ⟨ct, (H1.out.2.alloc _).trans kt⟩
    clear ct kt H1
    generalize ([-1, 0, 100000, 100001] : List Int)[jt]?.getD 0 = z at hj hz
    have Hz : Hid _ := hz
    clear hz
    go_wp2
    go_ret
    exact ⟨⟨z, rfl, Hz.out⟩, HT.out⟩
end Go.Proofs.YtemegnfefjcdaaaDoor

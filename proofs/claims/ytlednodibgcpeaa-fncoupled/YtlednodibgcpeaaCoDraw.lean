/-
  The model's drawing of chances, factors and choices. By the verifier, by program.
-/
import Derived.Test.YtlednodibgcpeaaDrawCur
import Derived.Test.YtlednodibgcpeaaDrawPow
import Derived.Deep.DeepCutAuto
namespace Go.Proofs.Ytlednodibgcpeaa
open Go.RowKit

set_option maxHeartbeats 1600000 in
theorem drawCo {W : World} {bc : Nat} {a : Option Addr} {len cap : Nat} (hc : Hid (Code W a len)) (w : World) (cur : Hid (Cur W bc a len cap w)) :
    Calls Try.prog 22 #[.pointer (some ⟨bc, 0, none⟩)] w fun e w' => (∃ x : Int, e = .returned (.int .i64 x)) ∧ Cur W bc a len cap w' ∧ Keep bc w w' := by
  go_enter Try.func22, Try.ntmps22
  go_wp2_with fail
  refine (drawOnce hc 8 (by omega) _ cur.out).mono ?_
  rintro e w1 ⟨⟨bo, rfl⟩, c1, k1⟩
  have H1 : Hid (Cur W bc a len cap w1 ∧ Keep bc w w1) := ⟨c1, k1⟩
  clear c1 k1
  cases bo
  · go_wp2_with fail
    refine (drawBelow hc 20 (by omega) _ H1.out.1).mono ?_
    rintro e w2 ⟨⟨x, rfl, x0, x1⟩, c2, k2⟩
    have H2 : Hid (Cur W bc a len cap w2 ∧ Keep bc w w2) := ⟨c2, H1.out.2.trans k2⟩
    clear c2 k2 H1
    have hp := pow_sm x0 x1
    have HP : Hid _ := hp
    clear hp
    go_wp2_with fail
    generalize wrap64 (2 ^ (1 + x).toNat) = M at HP ⊢
    refine (drawBelow hc M HP.out _ H2.out.1).mono ?_
    rintro e w3 ⟨⟨y, rfl, y0, y1⟩, c3, k3⟩
    have H3 : Hid (Cur W bc a len cap w3 ∧ Keep bc w w3) := ⟨c3, H2.out.2.trans k3⟩
    clear c3 k3 H2 y0 y1
    go_wp2
    go_ret
    exact ⟨⟨y, rfl⟩, H3.out⟩
  · go_wp2_with fail
    refine (drawBelow hc 5 (by omega) _ (H1.out.1.alloc _)).mono ?_
    rintro e wt ⟨⟨y8, rfl, yy0, yy1⟩, ct, kt⟩
    obtain ⟨jt, rfl⟩ := Int.eq_ofNat_of_zero_le yy0
    have hj := tab [-1, 0, 1048576, 1048577, 4611686018427387904] _ _ rfl H1.out.1.ne kt jt (by simp; omega)
    have HT : Hid (Cur W bc a len cap wt ∧ Keep bc w wt) := ⟨ct, (H1.out.2.alloc _).trans kt⟩
    clear ct kt H1
    generalize ([-1, 0, 1048576, 1048577, 4611686018427387904] : List Int)[jt]?.getD 0 = z at hj
    go_wp2
    go_ret
    exact ⟨⟨z, rfl⟩, HT.out⟩

set_option maxHeartbeats 1600000 in
theorem drawFactor {W : World} {bc : Nat} {a : Option Addr} {len cap : Nat} (hc : Hid (Code W a len)) (w : World) (cur : Hid (Cur W bc a len cap w)) :
    Calls Try.prog 23 #[.pointer (some ⟨bc, 0, none⟩)] w fun e w' => (∃ x : Int, e = .returned (.int .i64 x)) ∧ Cur W bc a len cap w' ∧ Keep bc w w' := by
  go_enter Try.func23, Try.ntmps23
  go_wp2_with fail
  refine (drawOnce hc 10 (by omega) _ cur.out).mono ?_
  rintro e w1 ⟨⟨bo, rfl⟩, c1, k1⟩
  have H1 : Hid (Cur W bc a len cap w1 ∧ Keep bc w w1) := ⟨c1, k1⟩
  clear c1 k1
  cases bo
  · go_wp2_with fail
    refine (drawBelow hc 8 (by omega) _ H1.out.1).mono ?_
    rintro e w2 ⟨⟨x, rfl, x0, x1⟩, c2, k2⟩
    have H2 : Hid (Cur W bc a len cap w2 ∧ Keep bc w w2) := ⟨c2, H1.out.2.trans k2⟩
    clear c2 k2
    go_wp2
    go_ret
    exact ⟨⟨_, rfl⟩, H2.out⟩
  · go_wp2_with fail
    refine (drawBelow hc 3 (by omega) _ (H1.out.1.alloc _)).mono ?_
    rintro e wt ⟨⟨y8, rfl, yy0, yy1⟩, ct, kt⟩
    obtain ⟨jt, rfl⟩ := Int.eq_ofNat_of_zero_le yy0
    have hj := tab [0, 9, -1] _ _ rfl H1.out.1.ne kt jt (by simp; omega)
    have HT : Hid (Cur W bc a len cap wt ∧ Keep bc w wt) := ⟨ct, (H1.out.2.alloc _).trans kt⟩
    clear ct kt H1
    generalize ([0, 9, -1] : List Int)[jt]?.getD 0 = z at hj
    go_wp2
    go_ret
    exact ⟨⟨z, rfl⟩, HT.out⟩

set_option maxHeartbeats 1600000 in
theorem dDrawSquared {W : World} {a : Option Addr} {len cap : Nat} (hc : Hid (Code W a len)) (w : World) (bel : Hid (Below W.heap.size W w)) :
    Calls Try.prog 11 #[.slice a len cap] w fun e w' => (∃ (x0 : Int), e = .returned (.int .i64 x0)) ∧ Below w.heap.size w w' := by
  have hle := bel.out.size
  have HB : Hid (Below W.heap.size W w) := bel.out
  go_enter Try.func11, Try.ntmps11
  go_wp2_with fail
  refine (drawNew hc _ bel).mono ?_
  rintro e w0 ⟨rfl, c0, k0⟩
  have H0 : Hid (Cur W w.heap.size a len cap w0 ∧ Keep w.heap.size w w0) := ⟨c0, ⟨k0.size, fun k _ hk => k0.block k hk⟩⟩
  clear c0 k0 bel
  go_wp2_with fail
  refine (drawCo hc _ H0.out.1).mono ?_
  rintro e w1 ⟨⟨x0, rfl⟩, c, k⟩
  have H1 : Hid (Cur W w.heap.size a len cap w1 ∧ Keep w.heap.size w w1) := ⟨c, H0.out.2.trans k⟩
  clear c k H0
  go_wp2
  refine bodyPost_ret (v := .int .i64 x0) (by simp [results, Try.results11, go_sem]) rfl ?_
  exact ⟨⟨x0, rfl⟩, bel_two HB.out H1.out.1.bel H1.out.2.size fun k hk => H1.out.2.block k (by omega) hk⟩

set_option maxHeartbeats 1600000 in
theorem dDrawCoupled {W : World} {a : Option Addr} {len cap : Nat} (hc : Hid (Code W a len)) (w : World) (bel : Hid (Below W.heap.size W w)) :
    Calls Try.prog 9 #[.slice a len cap] w fun e w' => (∃ (x0 : Int) (x1 : Int), e = .returned (.tuple #[.int .i64 x0, .int .i64 x1])) ∧ Below w.heap.size w w' := by
  have hle := bel.out.size
  have HB : Hid (Below W.heap.size W w) := bel.out
  go_enter Try.func9, Try.ntmps9
  go_wp2_with fail
  refine (drawNew hc _ bel).mono ?_
  rintro e w0 ⟨rfl, c0, k0⟩
  have H0 : Hid (Cur W w.heap.size a len cap w0 ∧ Keep w.heap.size w w0) := ⟨c0, ⟨k0.size, fun k _ hk => k0.block k hk⟩⟩
  clear c0 k0 bel
  go_wp2_with fail
  refine (drawCo hc _ H0.out.1).mono ?_
  rintro e w1 ⟨⟨x0, rfl⟩, c, k⟩
  have H1 : Hid (Cur W w.heap.size a len cap w1 ∧ Keep w.heap.size w w1) := ⟨c, H0.out.2.trans k⟩
  clear c k H0
  go_wp2_with fail
  refine (drawFactor hc _ H1.out.1).mono ?_
  rintro e w2 ⟨⟨x1, rfl⟩, c, k⟩
  have H2 : Hid (Cur W w.heap.size a len cap w2 ∧ Keep w.heap.size w w2) := ⟨c, H1.out.2.trans k⟩
  clear c k H1
  go_wp2
  refine bodyPost_ret (v := .tuple #[.int .i64 x0, .int .i64 x1]) (by simp [results, Try.results9, go_sem]) rfl ?_
  exact ⟨⟨x0, x1, rfl⟩, bel_two HB.out H2.out.1.bel H2.out.2.size fun k hk => H2.out.2.block k (by omega) hk⟩

set_option maxHeartbeats 1600000 in
theorem dDrawFair {W : World} {a : Option Addr} {len cap : Nat} (hc : Hid (Code W a len)) (w : World) (bel : Hid (Below W.heap.size W w)) :
    Calls Try.prog 13 #[.slice a len cap] w fun e w' => (∃ (x0 : Int) (x1 : Int), e = .returned (.tuple #[.int .i64 x0, .int .i64 x1])) ∧ Below w.heap.size w w' := by
  go_enter Try.func13, Try.ntmps13
  go_wp2_with fail
  refine (dDrawCoupled hc _ bel).mono ?_
  rintro e w1 ⟨⟨x0, x1, rfl⟩, q⟩
  have Q : Hid _ := q
  clear q
  go_wp2
  refine bodyPost_ret (v := .tuple #[.int .i64 x0, .int .i64 x1]) (by simp [results, Try.results13, go_sem]) rfl ?_
  exact ⟨⟨x0, x1, rfl⟩, Q.out⟩

set_option maxHeartbeats 1600000 in
theorem dDrawChoice {W : World} {a : Option Addr} {len cap : Nat} (hc : Hid (Code W a len)) (w : World) (bel : Hid (Below W.heap.size W w)) :
    Calls Try.prog 15 #[.slice a len cap] w fun e w' => (∃ (x0 : Int) (x1 : Int) (x2 : Bool) (x3 : Int), e = .returned (.tuple #[.int .i64 x0, .int .i64 x1, .bool x2, .int .i64 x3])) ∧ Below w.heap.size w w' := by
  have hle := bel.out.size
  have HB : Hid (Below W.heap.size W w) := bel.out
  go_enter Try.func15, Try.ntmps15
  go_wp2_with fail
  refine (drawNew hc _ bel).mono ?_
  rintro e w0 ⟨rfl, c0, k0⟩
  have H0 : Hid (Cur W w.heap.size a len cap w0 ∧ Keep w.heap.size w w0) := ⟨c0, ⟨k0.size, fun k _ hk => k0.block k hk⟩⟩
  clear c0 k0 bel
  go_wp2_with fail
  refine (drawCo hc _ H0.out.1).mono ?_
  rintro e w1 ⟨⟨x0, rfl⟩, c, k⟩
  have H1 : Hid (Cur W w.heap.size a len cap w1 ∧ Keep w.heap.size w w1) := ⟨c, H0.out.2.trans k⟩
  clear c k H0
  go_wp2_with fail
  refine (drawFactor hc _ H1.out.1).mono ?_
  rintro e w2 ⟨⟨x1, rfl⟩, c, k⟩
  have H2 : Hid (Cur W w.heap.size a len cap w2 ∧ Keep w.heap.size w w2) := ⟨c, H1.out.2.trans k⟩
  clear c k H1
  go_wp2_with fail
  refine (drawOnce hc 2 (by omega) _ H2.out.1).mono ?_
  rintro e w3 ⟨⟨x2, rfl⟩, c, k⟩
  have H3 : Hid (Cur W w.heap.size a len cap w3 ∧ Keep w.heap.size w w3) := ⟨c, H2.out.2.trans k⟩
  clear c k H2
  go_wp2_with fail
  refine (drawCo hc _ H3.out.1).mono ?_
  rintro e w4 ⟨⟨x3, rfl⟩, c, k⟩
  have H4 : Hid (Cur W w.heap.size a len cap w4 ∧ Keep w.heap.size w w4) := ⟨c, H3.out.2.trans k⟩
  clear c k H3
  go_wp2
  refine bodyPost_ret (v := .tuple #[.int .i64 x0, .int .i64 x1, .bool x2, .int .i64 x3]) (by simp [results, Try.results15, go_sem]) rfl ?_
  exact ⟨⟨x0, x1, x2, x3, rfl⟩, bel_two HB.out H4.out.1.bel H4.out.2.size fun k hk => H4.out.2.block k (by omega) hk⟩

end Go.Proofs.Ytlednodibgcpeaa

/-
  The model's drawing of words and of pairs of them. By the verifier.
-/
import Derived.Test.YtppgidcebhfjkaaDrawKeep
namespace Go.Proofs.Ytppgidcebhfjkaa
open Go.RowKit

set_option maxHeartbeats 800000 in
theorem drawWord {W : World} {bc : Nat} {a : Option Addr} {len cap : Nat} (hc : Hid (Code W a len)) (w : World) (cur : Hid (Cur W bc a len cap w)) :
    Calls Try.prog 20 #[.pointer (some ⟨bc, 0, none⟩)] w fun e w' => (∃ x : Int, e = .returned (.int .i64 x) ∧ -1 ≤ x ∧ x ≤ 65536) ∧ Cur W bc a len cap w' ∧ Keep bc w w' := by
  go_enter Try.func20, Try.ntmps20
  go_wp2_with fail
  refine (drawOnce hc 6 (by omega) _ cur).mono ?_
  rintro e w1 ⟨⟨x, rfl⟩, c1⟩
  have H1 : Hid (Cur W bc a len cap w1 ∧ Keep bc w w1) := c1
  clear c1
  cases x
  · go_wp2_with fail
    refine (drawBelow hc 65536 (by omega) _ H1.out.1).mono ?_
    rintro e w2 ⟨⟨y, rfl, y0, y1⟩, c2, k2⟩
    have H2 : Hid (Cur W bc a len cap w2 ∧ Keep bc w w2) := ⟨c2, H1.out.2.trans k2⟩
    clear c2 k2 H1
    go_wp2
    go_ret
    exact ⟨⟨_, rfl, by omega, by omega⟩, H2.out⟩
  · go_wp2_with fail
    refine (drawBelow hc 6 (by omega) _ (H1.out.1.alloc _)).mono ?_
    rintro e w2 ⟨⟨y, rfl, y0, y1⟩, c2, k2⟩
    obtain ⟨j, rfl⟩ := Int.eq_ofNat_of_zero_le y0
    have hj := tab [-1, 0, 65535, 65536, 1, 65534] _ _ rfl H1.out.1.ne k2 j (by simp; omega)
    have hb := tab_in [-1, 0, 65535, 65536, 1, 65534] (-1) 65536 (by decide) j (by simp; omega)
    have H2 : Hid (Cur W bc a len cap w2 ∧ Keep bc w w2) := ⟨c2, (H1.out.2.alloc _).trans k2⟩
    clear c2 k2 H1
    generalize ([-1, 0, 65535, 65536, 1, 65534] : List Int)[j]?.getD 0 = z at hj hb
    have Hb : Hid (-1 ≤ z ∧ z ≤ 65536) := hb
    clear hb
    go_wp2
    go_ret
    exact ⟨⟨_, rfl, Hb.out⟩, H2.out⟩
end Go.Proofs.Ytppgidcebhfjkaa

/-
  The model's drawing of Sum16's text: some text of at most 13 bytes. By the verifier.
-/
import Derived.Test.YtppgidcebhfjkaaDrawKeep
namespace Go.Proofs.Ytppgidcebhfjkaa
open Go.RowKit

set_option maxHeartbeats 1600000 in
theorem drawSum16 {W : World} {a : Option Addr} {len cap : Nat} (hc : Hid (Code W a len)) (w : World) (bel : Hid (Below W.heap.size W w)) :
    Calls Try.prog 16 #[.slice a len cap] w fun e w' => (∃ t : ByteArray, e = .returned (.string t) ∧ t.size ≤ 13) ∧ Below W.heap.size W w' := by
  go_enter Try.func16, Try.ntmps16
  go_wp2_with fail
  refine (drawNew hc _ bel).mono ?_
  rintro e w1 ⟨rfl, c1, -⟩
  generalize w.heap.size = bc at c1 ⊢
  have H1 : Hid (Cur W bc a len cap w1) := c1
  clear c1 bel
  go_wp2_with fail
  refine (drawBelow hc 12 (by omega) _ (H1.out.alloc _)).mono ?_
  rintro e w2 ⟨⟨x, rfl, x0, x1⟩, c2, k2⟩
  have hr : Row (bc + 1) w2 (.slice (some ⟨w1.heap.size, 0, none⟩) 0 0) [] := (row_lit0 (bc + 1) w1 _ rfl H1.out.lt).keep (Nat.lt_succ_self _) k2
  have H2 : Hid (Cur W bc a len cap w2 ∧ Row (bc + 1) w2 (.slice (some ⟨w1.heap.size, 0, none⟩) 0 0) []) := ⟨c2, hr⟩
  clear c2 k2 H1 hr
  go_wp2_with fail
  go_loopw [4, 5] (fun b n wr => ∃ (xs : List Int) (m : Nat), n = .int .i64 m ∧ xs.length + m ≤ 11 ∧ (∃ g c, b = .slice (some ⟨g, 0, none⟩) xs.length c) ∧ Cur W bc a len cap wr ∧ Row (bc + 1) wr b xs) (fun _ n _ => (intOf n).toNat)
  case atStart =>
    obtain ⟨j, rfl⟩ := Int.eq_ofNat_of_zero_le x0
    exact ⟨[], j, rfl, by simp; omega, ⟨_, _, rfl⟩, H2.out⟩
  case round =>
    clear H2
    obtain ⟨xs, m, rfl, hxm, ⟨g, cp, rfl⟩, c3, r3⟩ := hrel
    have H3 : Hid (Cur W bc a len cap wr ∧ Row (bc + 1) wr (.slice (some ⟨g, 0, none⟩) xs.length cp) xs) := ⟨c3, r3⟩
    clear c3 r3
    by_cases hm : m = 0
    · subst hm
      go_wp2_with fail
      refine (drawOnce hc 8 (by omega) _ H3.out.1).mono ?_
      rintro e w4 ⟨⟨b, rfl⟩, c4, k4⟩
      have r4 := H3.out.2.keep (Nat.lt_succ_self _) k4
      have H4 : Hid (Cur W bc a len cap w4) := c4
      clear c4 k4 H3
      cases b
      · have k1 := r4.conv
        have k2 := r4.bytes
        clear r4
        go_wp2
        go_ret
        exact ⟨⟨_, rfl, by rw [strB_size]; omega⟩, H4.out.bel⟩
      · have H5 : Hid (Row (bc + 1) w4 (.slice (some ⟨g, 0, none⟩) xs.length cp) xs) := r4
        clear r4
        go_wp2_with (at_builtin; refine row_app2 rfl (.tmp 23) (.tmp 24) rfl (bc + 1) _ xs 255 255 rfl H5.out rfl ?_ H4.out.lt ?_)
        · omega
        intro v5 w5 r5 b5
        obtain ⟨g5, cp5, rfl⟩ := r5.form (by simp)
        have k1 := r5.conv
        have k2 := r5.bytes
        have H6 : Hid (Below W.heap.size W w5) := (H4.out.below (Nat.lt_succ_self _) b5).bel
        clear r5 b5
        simp only [List.length_append, List.length_cons, List.length_nil] at k1 k2 ⊢
        go_wp2
        go_ret
        exact ⟨⟨_, rfl, by rw [strB_size]; simp; omega⟩, H6.out⟩
    · have hm1 : (0 : Int) < m := by omega
      go_wp2_with fail
      refine (drawByte hc.out _ H3.out.1).mono ?_
      rintro e w4 ⟨⟨y, rfl, y0, y1⟩, c4, k4⟩
      have H4 : Hid (Cur W bc a len cap w4 ∧ Row (bc + 1) w4 (.slice (some ⟨g, 0, none⟩) xs.length cp) xs) := ⟨c4, H3.out.2.keep (Nat.lt_succ_self _) k4⟩
      clear c4 k4 H3
      go_wp2_with (at_builtin; refine row_app1 rfl (.tmp 15) (.tmp 19) rfl (bc + 1) _ xs y rfl H4.out.2 rfl ?_ H4.out.1.lt ?_)
      · omega
      intro v5 w5 r5 b5
      obtain ⟨g5, cp5, rfl⟩ := r5.form (by simp)
      have H5 : Hid (Cur W bc a len cap w5 ∧ Row (bc + 1) w5 (.slice (some ⟨g5, 0, none⟩) (xs ++ [y]).length cp5) (xs ++ [y])) := ⟨H4.out.1.below (Nat.lt_succ_self _) b5, r5⟩
      clear r5 b5 H4
      go_wp2
      go_roundw
      case rel => exact ⟨xs ++ [y], m - 1, by rw [show ((m - 1 : Nat) : Int) = (m : Int) - 1 by omega], by simp; omega, ⟨_, _, rfl⟩, H5.out⟩
      case measure => simp [intOf]; omega
end Go.Proofs.Ytppgidcebhfjkaa

/-
  The walk of the law of roots. By the verifier.
-/
import Derived.Test.YtdpibcofhokiiaaDraw
import Derived.Test.YtdpibcofhokiiaaRoot
import Derived.Test.YtdpibcofhokiiaaShare
namespace Go.Proofs.Ytdpibcofhokiiaa
open Go.RowKit

set_option maxHeartbeats 400000 in
theorem drawFixOk {W : World} {a : Option Addr} {len cap : Nat} (hc : Hid (Code W a len)) (w : World) (bel : Hid (Below W.heap.size W w)) :
    Calls Try.prog 21 #[.slice a len cap] w fun e w' => (∃ x : Int, e = .returned (.int .i64 x) ∧ -9223372036854775808 ≤ x ∧ x ≤ 9223372036854775807) ∧ Below W.heap.size W w' := by
  go_enter Try.func21, Try.ntmps21
  go_wp2_with fail
  refine (drawNew hc _ bel).mono ?_
  rintro e w1 ⟨rfl, c1, b1⟩
  have H1 : Hid (Cur W w.heap.size a len cap w1) := c1
  clear c1 b1
  go_wp2_with fail
  refine (drawDraw hc _ H1).mono ?_
  rintro e w2 ⟨⟨x, rfl, x0, x1⟩, c2, k2⟩
  have H2 : Hid (Below W.heap.size W w2) := c2.bel
  clear c2 k2 H1
  go_wp2
  go_ret
  exact ⟨⟨_, rfl, x0, x1⟩, H2.out⟩
theorem drawRoot {W : World} {a : Option Addr} {len cap : Nat} (hc : Hid (Code W a len)) (w : World) (bel : Hid (Below W.heap.size W w)) :
    Calls Try.prog 10 #[.slice a len cap] w fun e w' => (∃ x : Int, e = .returned (.int .i64 x) ∧ -9223372036854775808 ≤ x ∧ x ≤ 9223372036854775807) ∧ Below W.heap.size W w' := by
  go_enter Try.func10, Try.ntmps10
  go_wp2_with fail
  refine (drawFixOk hc _ bel).mono ?_
  rintro e w1 ⟨⟨x, rfl, x0, x1⟩, b1⟩
  have H1 : Hid (Below W.heap.size W w1) := b1
  clear b1
  go_wp2
  go_ret
  exact ⟨⟨_, rfl, x0, x1⟩, H1.out⟩

theorem share_sq {r : Int} (h0 : 0 ≤ r) (h1 : r ≤ 1048576) : shareV r r 1 = r * r := by
  obtain ⟨s0, s1⟩ := Plain.sq_fits h0 h1
  rw [shareV, if_pos (by omega), Plain.share, if_neg (by omega), Int.ediv_one]
  omega

set_option maxHeartbeats 800000 in
theorem fnRoots_walk (a : Option Addr) (len cap : Nat) (w : World)
    (hcode : ∀ k, k < len → ∃ b off z, a = some ⟨b, off, none⟩ ∧ b < w.heap.size ∧ w.cell? ⟨b, off + k, none⟩ = some (.int .u8 z) ∧ 0 ≤ z ∧ z ≤ 255) :
    Calls Try.prog 3 #[.slice a len cap] w fun e w' => e = .returned (.bool true) ∧ Below w.heap.size w w' := by
  by_cases hbig : 4096 < len
  · clear hcode
    go_enter Try.func3, Try.ntmps3
    go_wp2
    go_ret
    exact ⟨rfl, Below.refl _ _⟩
  have hc : Hid (Code w a len) := ⟨by omega, hcode⟩
  have hb : Hid (Below w.heap.size w w) := Below.refl _ _
  clear hcode
  go_enter Try.func3, Try.ntmps3
  go_wp2_with (go_at_call 9; go_in)
  refine (drawRoot hc _ hb).mono ?_
  rintro e w1 ⟨⟨x, rfl, x0, x1⟩, b1⟩
  have H1 : Hid (Below w.heap.size w w1) := b1
  clear b1 hb hc
  cases hx : okB x
  · have hf := okB_false.1 hx
    go_wp2_with fail
    refine (implRoot_no _ _ hx).mono ?_
    rintro e w2 ⟨rfl, rfl⟩
    go_wp2_with fail
    refine (specRoot_no _ _ hx).mono ?_
    rintro e w2 ⟨rfl, rfl⟩
    rcases hf with hf | hf
    · go_wp2
      go_ret
      exact ⟨rfl, H1.out⟩
    · have hf' : ¬ x < 0 := by omega
      go_wp2
      go_ret
      exact ⟨rfl, H1.out⟩
  · obtain ⟨hx0, hx1⟩ := okB_true.1 hx
    go_wp2_with fail
    refine (implRoot_ok _ _ hx).mono ?_
    rintro e w2 ⟨⟨r, rfl, hr⟩, rfl⟩
    go_wp2_with fail
    refine (specRoot_ok _ _ hx).mono ?_
    rintro e w2 ⟨⟨s, rfl, hs⟩, rfl⟩
    obtain rfl := hr.one hs
    clear hs
    obtain ⟨r0, r1, r2, r3⟩ := hr
    have q0 := Plain.sq_fits r0 r1
    have q1 := Plain.sq_fits' r0 r1
    obtain ⟨q00, q01⟩ := q0
    obtain ⟨q10, q11⟩ := q1
    have hsq := share_sq r0 r1
    have Hsq : Hid (shareV r r 1 = r * r) := hsq
    clear hsq
    go_wp2_with fail
    refine (implShare r r 1 _).mono ?_
    rintro e w3 ⟨rfl, hg⟩
    rw [Hsq.out]
    have Hg : Hid (Below w.heap.size w w3) := H1.out.trans (hg.2.mono H1.out.size)
    clear hg
    go_wp2
    go_ret
    exact ⟨rfl, Hg.out⟩
end Go.Proofs.Ytdpibcofhokiiaa

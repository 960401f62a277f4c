/-
  The walk of the model's HeadSize. By the verifier.
-/
import Derived.Test.YtddjflaceokoaaaDoorFrSizeI
namespace Go.Proofs.YtddjflaceokoaaaDoor
open Go.RowKit

set_option maxHeartbeats 1600000 in
set_option maxRecDepth 100000 in
theorem specHeadSize (f : Fr) (a : Option Addr) (cap : Nat) (w : World) (hT : f.tags.length ≤ 1048576) (hc : Hid (IntsAt w a f.tags)) :
    Calls Tryd.prog 16 #[f.val a cap] w fun e w' => e = .returned (.int .i64 f.headSize) ∧ Below w.heap.size w w' := by
  have F := fun w1 (h : Hid (IntsAt w1 a f.tags)) => specFrameOk f a cap w1 hT h
  have hsz : f.headSize = if f.ok then 23 + 3 * (f.tags.length : Int) else 0 := rfl
  generalize f.headSize = hs at hsz ⊢
  generalize f.ok = okb at F hsz
  obtain ⟨to, frm, tags, src, dst, proto, sport, dport, mark, sum, body⟩ := f
  simp only [Fr.val] at F hT hc hsz ⊢
  obtain ⟨len, hlen⟩ : ∃ n, tags.length = n := ⟨_, rfl⟩
  rw [hlen] at hT hsz ⊢
  simp only [hlen] at F
  clear hlen
  have F' : Hid _ := F
  have Hs : Hid _ := hsz
  clear F hsz
  go_enter Tryd.func16, Tryd.ntmps16
  go_wp2_with fail
  have hbox := Boxed.new w #[.int .i64 to, .int .i64 frm, .slice a len cap, .int .i64 src, .int .i64 dst, .int .i64 proto, .int .i64 sport, .int .i64 dport, .int .i64 mark, .int .i64 sum, .string body] 26
  have hci := hc.out.alloc (.cells #[.int .i64 to, .int .i64 frm, .slice a len cap, .int .i64 src, .int .i64 dst, .int .i64 proto, .int .i64 sport, .int .i64 dport, .int .i64 mark, .int .i64 sum, .string body] 26)
  generalize hw1 : w.alloc (.cells #[.int .i64 to, .int .i64 frm, .slice a len cap, .int .i64 src, .int .i64 dst, .int .i64 proto, .int .i64 sport, .int .i64 dport, .int .i64 mark, .int .i64 sum, .string body] 26) = w1 at hbox hci ⊢
  have hs1 : w1.heap.size = w.heap.size + 1 := by rw [← hw1]; simp
  have Hw1 : Hid (∀ w', Below (w.heap.size + 1) w1 w' → Below w.heap.size w w') := by
    show ∀ w', _
    intro w' g; rw [← hw1] at g; exact below_of_alloc g
  have H0 : Hid (Boxed w1 w.heap.size _ _ ∧ IntsAt w1 a tags ∧ w1.heap.size = w.heap.size + 1) := ⟨hbox, hci, hs1⟩
  clear hbox hci hw1 hc
  refine (F'.out w1 H0.out.2.1).mono ?_
  rintro e w2 ⟨rfl, b2⟩
  have H2 : Hid (Below (w.heap.size + 1) w1 w2) := by rw [← H0.out.2.2]; exact b2
  clear b2
  cases okb with
  | false =>
    go_wp2
    go_ret
    exact ⟨by rw [Hs.out]; rfl, Hw1.out _ H2.out⟩
  | true =>
    have c2 := (H0.out.1.below (by omega) H2.out).cell 2 rfl
    go_wp2
    go_ret
    exact ⟨by rw [Hs.out]; simp, Hw1.out _ H2.out⟩
end Go.Proofs.YtddjflaceokoaaaDoor

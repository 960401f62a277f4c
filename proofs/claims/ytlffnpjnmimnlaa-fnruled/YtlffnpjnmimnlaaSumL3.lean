/-
  The walk of the model's l3Sum: the sum that a frame's Sum must be. By the verifier.
-/
import Derived.Test.YtlffnpjnmimnlaaFrConv
import Derived.Test.YtlffnpjnmimnlaaMFb
namespace Go.Proofs.Ytlffnpjnmimnlaa
open Go.RowKit

/-- The frame with Sum 0. -/
def Fr.zeroSum (f : Fr) : Fr := { f with sum := 0 }
/-- What is summed: what it is shown as from Src on. -/
def Fr.inner (f : Fr) : ByteArray := strB (f.mid ++ bytesB f.body)
/-- What Sum must be. -/
def Fr.sumOf (f : Fr) : Int := sum16 f.zeroSum.inner
theorem Fr.sumOf_in (f : Fr) : 0 ≤ f.sumOf ∧ f.sumOf ≤ 65535 := sum16_in _

set_option maxHeartbeats 1600000 in
set_option maxRecDepth 100000 in
theorem specL3Sum (f : Fr) (a : Option Addr) (cap : Nat) (w : World) (ok : Hid f.Shows) :
    Calls Try.prog 75 #[f.val a cap] w fun e w' => e = .returned (.int .i64 f.sumOf) ∧ Below w.heap.size w w' := by
  have ok' : f.zeroSum.Shows := by
    obtain ⟨h0, h1, h2, h4, h5, h6, h8, hB⟩ := ok.out
    exact ⟨h0, h1, h2, h4, h5, h6, Int.le_refl _, hB⟩
  have L := fun w1 => specInner f.zeroSum a cap w1 ok'
  have hI : (f.zeroSum.mid ++ bytesB f.zeroSum.body).length ≤ 100018 := by have := ok'.2.2.2.2.2.2.2; rw [List.length_append, Fr.mid_length, bytesB_length]; omega
  have hI0 : 0 < (f.zeroSum.mid ++ bytesB f.zeroSum.body).length := by rw [List.length_append, Fr.mid_length]; omega
  have hS : Hid (f.sumOf = sum16 (strB (f.zeroSum.mid ++ bytesB f.zeroSum.body))) := rfl
  generalize f.sumOf = sm at hS ⊢
  generalize f.zeroSum.mid ++ bytesB f.zeroSum.body = I at hI hI0 L hS ⊢
  have hsz : (strB I).size ≤ 1048576 := by rw [strB_size]; omega
  clear ok ok'
  obtain ⟨tt, frm, tags, src, dst, proto, sport, dport, mark, sum, body⟩ := f
  simp only [Fr.val, Fr.zeroSum] at L ⊢
  generalize tags.length = len at L ⊢
  have L' : Hid _ := L
  clear L
  go_enter Try.func75, Try.ntmps75
  go_upto_region 2 with fail
  have hbox := Boxed.new w #[.int .i64 tt, .int .i64 frm, .slice a len cap, .int .i64 src, .int .i64 dst, .int .i64 proto, .int .i64 sport, .int .i64 dport, .int .i64 mark, .int .i64 0, .string body] 27
  generalize hw1 : w.alloc (.cells #[.int .i64 tt, .int .i64 frm, .slice a len cap, .int .i64 src, .int .i64 dst, .int .i64 proto, .int .i64 sport, .int .i64 dport, .int .i64 mark, .int .i64 0, .string body] 27) = w1 at hbox ⊢
  have hs1 : w1.heap.size = w.heap.size + 1 := by rw [← hw1]; simp
  have Hw1 : Hid (∀ w', Below w1.heap.size w1 w' → Below w.heap.size w w') := by
    show ∀ w', _
    intro w' g; rw [← hw1] at g; exact below_of_alloc (by simpa using g)
  have H0 : Hid (Boxed w1 w.heap.size _ _) := hbox
  clear hbox hw1 hs1
  go_wp2_with (first | (refine wpList_load_row rfl 27 (.tmp 1) rfl w.heap.size rfl _ _ _ _ H0.out Try.underlying27 rfl (by kernel_rfl) ?_) | (go_at_call 84; refine (L'.out _).mono ?_; rintro e w2 ⟨v2, rfl, r2, b2⟩; obtain ⟨g2, cap2, rfl⟩ := r2.form hI0; have k1 := r2.conv; have k2 := r2.bytes; have K2 : Hid (Below w1.heap.size w1 w2) := b2; clear r2 b2) | (go_at_call 83; refine (specSum16 _ hsz _).mono ?_; rintro e w3 ⟨rfl, rfl⟩))
  go_ret
  exact ⟨by rw [hS.out]; rfl, Hw1.out _ K2.out⟩
end Go.Proofs.Ytlffnpjnmimnlaa

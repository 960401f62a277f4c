/-
  The walk of the program's ShowFrame: what a frame is shown as. By the verifier.
-/
import Derived.Test.YtddjflaceokoaaaDoorFrConv
namespace Go.Proofs.YtddjflaceokoaaaDoor
open Go.RowKit

set_option maxHeartbeats 3200000 in
set_option maxRecDepth 100000 in
theorem implShow (f : Fr) (a : Option Addr) (cap : Nat) (w : World) (hT : f.tags.length ≤ 1048576) (hc : Hid (IntsAt w a f.tags)) :
    Calls Tryd.prog 7 #[f.val a cap] w fun e w' => e = .returned (.string f.show) ∧ Below w.heap.size w w' := by
  have F := fun w1 (h : Hid (IntsAt w1 a f.tags)) => implFrameOk f a cap w1 hT h
  have G := fun w1 (ok : Hid f.Ok) (h : Hid (IntsAt w1 a f.tags)) => implHead f a cap w1 ok h
  cases hok : f.ok with
  | false =>
    have hsh := Fr.show_no hok
    rw [hok] at F
    generalize f.show = sh at hsh ⊢
    subst hsh
    clear G hok
    obtain ⟨tt, frm, tags, src, dst, proto, sport, dport, mark, sum, body⟩ := f
    simp only [Fr.val] at F hT hc ⊢
    obtain ⟨len, hlen⟩ : ∃ n, tags.length = n := ⟨_, rfl⟩
    simp only [hlen] at F hT ⊢
    clear hlen
    have F' : Hid _ := F
    clear F
    go_enter Tryd.func7, Tryd.ntmps7
    go_wp2_with fail
    have hbox := Boxed.new w #[.int .i64 tt, .int .i64 frm, .slice a len cap, .int .i64 src, .int .i64 dst, .int .i64 proto, .int .i64 sport, .int .i64 dport, .int .i64 mark, .int .i64 sum, .string body] 26
    have hci := hc.out.alloc (.cells #[.int .i64 tt, .int .i64 frm, .slice a len cap, .int .i64 src, .int .i64 dst, .int .i64 proto, .int .i64 sport, .int .i64 dport, .int .i64 mark, .int .i64 sum, .string body] 26)
    generalize hw1 : w.alloc (.cells #[.int .i64 tt, .int .i64 frm, .slice a len cap, .int .i64 src, .int .i64 dst, .int .i64 proto, .int .i64 sport, .int .i64 dport, .int .i64 mark, .int .i64 sum, .string body] 26) = w1 at hbox hci ⊢
    have hs1 : w1.heap.size = w.heap.size + 1 := by rw [← hw1]; simp
    have Hw1 : Hid (∀ w', Below (w.heap.size + 1) w1 w' → Below w.heap.size w w') := by
      show ∀ w', _
      intro w' g; rw [← hw1] at g; exact below_of_alloc g
    have H0 : Hid (Boxed w1 w.heap.size _ _ ∧ IntsAt w1 a tags ∧ w1.heap.size = w.heap.size + 1) := ⟨hbox, hci, hs1⟩
    clear hbox hci hw1 hc hs1
    refine (F'.out w1 H0.out.2.1).mono ?_
    rintro e w2 ⟨rfl, b2⟩
    have H2 : Hid (Below (w.heap.size + 1) w1 w2) := by rw [← H0.out.2.2]; exact b2
    clear b2
    go_wp2
    go_ret
    exact ⟨rfl, Hw1.out _ H2.out⟩
  | true =>
    have hsh := Fr.show_ok hok
    have hOk : Hid f.Ok := Fr.ok_true.1 hok
    have hBd : f.body.size ≤ 1500 := hOk.out.2.2.2.2.2.2.2.2.2.2.1
    have hhl : f.head.length ≤ 29 := by have := hOk.out.2.2.1; rw [Fr.head_length]; omega
    have hhp : 0 < f.head.length := by rw [Fr.head_length]; omega
    rw [hok] at F
    generalize f.show = sh at hsh ⊢
    subst hsh
    have G := fun w1 h => G w1 hOk h
    generalize f.head = hd at hhl hhp G ⊢
    clear hOk hok
    obtain ⟨tt, frm, tags, src, dst, proto, sport, dport, mark, sum, body⟩ := f
    simp only [Fr.val] at F G hBd hT hc ⊢
    obtain ⟨len, hlen⟩ : ∃ n, tags.length = n := ⟨_, rfl⟩
    simp only [hlen] at F G hBd hT ⊢
    clear hlen
    have F' : Hid _ := F
    have G' : Hid _ := G
    clear F G
    go_enter Tryd.func7, Tryd.ntmps7
    go_wp2_with fail
    have hbox := Boxed.new w #[.int .i64 tt, .int .i64 frm, .slice a len cap, .int .i64 src, .int .i64 dst, .int .i64 proto, .int .i64 sport, .int .i64 dport, .int .i64 mark, .int .i64 sum, .string body] 26
    have hci := hc.out.alloc (.cells #[.int .i64 tt, .int .i64 frm, .slice a len cap, .int .i64 src, .int .i64 dst, .int .i64 proto, .int .i64 sport, .int .i64 dport, .int .i64 mark, .int .i64 sum, .string body] 26)
    generalize hw1 : w.alloc (.cells #[.int .i64 tt, .int .i64 frm, .slice a len cap, .int .i64 src, .int .i64 dst, .int .i64 proto, .int .i64 sport, .int .i64 dport, .int .i64 mark, .int .i64 sum, .string body] 26) = w1 at hbox hci ⊢
    have hs1 : w1.heap.size = w.heap.size + 1 := by rw [← hw1]; simp
    have Hw1 : Hid (∀ w', Below (w.heap.size + 1) w1 w' → Below w.heap.size w w') := by
      show ∀ w', _
      intro w' g; rw [← hw1] at g; exact below_of_alloc g
    have H0 : Hid (Boxed w1 w.heap.size _ _ ∧ IntsAt w1 a tags ∧ w1.heap.size = w.heap.size + 1) := ⟨hbox, hci, hs1⟩
    clear hbox hci hw1 hc hs1
    refine (F'.out w1 H0.out.2.1).mono ?_
    rintro e w2 ⟨rfl, b2⟩
    have H2 : Hid (Below (w.heap.size + 1) w1 w2) := by rw [← H0.out.2.2]; exact b2
    clear b2
    have hb2 := H0.out.1.below (Nat.lt_succ_self _) H2.out
    have c0 := hb2.cell 0 rfl
    have c1 := hb2.cell 1 rfl
    have c2 := hb2.cell 2 rfl
    have c3 := hb2.cell 3 rfl
    have c4 := hb2.cell 4 rfl
    have c5 := hb2.cell 5 rfl
    have c6 := hb2.cell 6 rfl
    have c7 := hb2.cell 7 rfl
    have c8 := hb2.cell 8 rfl
    have c9 := hb2.cell 9 rfl
    have c10 := hb2.cell 10 rfl
    have Hb2 : Hid _ := hb2
    have s2 : w.heap.size < w2.heap.size := by have := H2.out.size; have := H0.out.2.2; omega
    have hss : (strB hd).size ≤ 29 := by rw [strB_size]; exact hhl
    clear hb2
    go_wp2_with fail
    go_region_with (go_at_call 22; refine (G'.out _ ?_).mono ?_; exact ints_below H0.out.2.1 (Nat.le_of_eq H0.out.2.2) H2.out.drew; rintro e w3 ⟨v3, rfl, r3, b3⟩; obtain ⟨g3, cap3, rfl⟩ := r3.form hhp; have K3 : Hid (Below (w.heap.size + 1) w1 w3) := H2.out.trans ((Below.refl _ w2).drew.trans (b3.mono s2)); have d10 := (H0.out.1.below (Nat.lt_succ_self _) K3.out).cell 10 rfl; have k1 := r3.conv; have k2 := r3.bytes; clear r3 b3)
    all_goals (go_wp2; go_ret; exact ⟨rfl, Hw1.out _ K3.out⟩)

end Go.Proofs.YtddjflaceokoaaaDoor

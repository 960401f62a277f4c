/-
  The walk of the model's ShowFrame: what a frame is shown as. By the verifier.
-/
import Derived.Test.YtddjflaceokoaaaDoorFrOuter
import Derived.Test.YtddjflaceokoaaaDoorFrShowI
namespace Go.Proofs.YtddjflaceokoaaaDoor
open Go.RowKit

set_option maxHeartbeats 6400000 in
set_option maxRecDepth 100000 in
theorem specShow (f : Fr) (a : Option Addr) (cap : Nat) (w : World) (hT : f.tags.length ≤ 1048576) (hc : Hid (IntsAt w a f.tags)) :
    Calls Tryd.prog 12 #[f.val a cap] w fun e w' => e = .returned (.string f.show) ∧ Below w.heap.size w w' := by
  have F := fun w1 (h : Hid (IntsAt w1 a f.tags)) => specFrameOk f a cap w1 hT h
  have G := fun w1 (ok : Hid f.Ok) (h : Hid (IntsAt w1 a f.tags)) => specOuter f a cap w1 ok h
  have L := fun w1 (ok : Hid f.Shows) => specInner f a cap w1 ok
  cases hok : f.ok with
  | false =>
    have hsh := Fr.show_no hok
    rw [hok] at F
    generalize f.show = sh at hsh ⊢
    subst hsh
    clear G L hok
    obtain ⟨tt, frm, tags, src, dst, proto, sport, dport, mark, sum, body⟩ := f
    simp only [Fr.val] at F hT hc ⊢
    obtain ⟨len, hlen⟩ : ∃ n, tags.length = n := ⟨_, rfl⟩
    simp only [hlen] at F hT ⊢
    clear hlen
    have F' : Hid _ := F
    clear F
    go_enter Tryd.func12, Tryd.ntmps12
    go_wp2_with fail
    have hbox := Boxed.new w #[.int .i64 tt, .int .i64 frm, .slice a len cap, .int .i64 src, .int .i64 dst, .int .i64 proto, .int .i64 sport, .int .i64 dport, .int .i64 mark, .int .i64 sum, .string body] 26
    have hci := hc.out.alloc (.cells #[.int .i64 tt, .int .i64 frm, .slice a len cap, .int .i64 src, .int .i64 dst, .int .i64 proto, .int .i64 sport, .int .i64 dport, .int .i64 mark, .int .i64 sum, .string body] 26)
    generalize hw1 : w.alloc (.cells #[.int .i64 tt, .int .i64 frm, .slice a len cap, .int .i64 src, .int .i64 dst, .int .i64 proto, .int .i64 sport, .int .i64 dport, .int .i64 mark, .int .i64 sum, .string body] 26) = w1 at hbox hci ⊢
    have hs1 : w1.heap.size = w.heap.size + 1 := by rw [← hw1]; simp
    have Hw1 : Hid (∀ w', Below (w.heap.size + 1) w1 w' → Below w.heap.size w w') := by
      show ∀ w', _
      intro w' g; rw [← hw1] at g; exact below_of_alloc g
    have H0 : Hid (Boxed w1 w.heap.size _ _ ∧ IntsAt w1 a tags ∧ w1.heap.size = w.heap.size + 1) := ⟨hbox, hci, hs1⟩
    clear hbox hci hw1 hc hs1
    refine (F'.out w1 H0.out.2.1).mono ?_
    rintro e w2 ⟨rfl, b2⟩
    have H2 : Hid (Below (w.heap.size + 1) w1 w2) := by rw [← H0.out.2.2]; exact b2
    clear b2
    go_wp2
    go_ret
    exact ⟨rfl, Hw1.out _ H2.out⟩
  | true =>
    have hsh := Fr.show_two hok
    have hOk : Hid f.Ok := Fr.ok_true.1 hok
    have hO : (f.outer ++ [2]).length ≤ 11 := by have := hOk.out.2.2.1; rw [List.length_append, Fr.outer_length, List.length_singleton]; omega
    have hI : (f.mid ++ bytesB f.body).length ≤ 1518 := by have := hOk.out.2.2.2.2.2.2.2.2.2.2.1; rw [List.length_append, Fr.mid_length, bytesB_length]; omega
    have hI0 : 0 < (f.mid ++ bytesB f.body).length := by rw [List.length_append, Fr.mid_length]; omega
    rw [hok] at F
    generalize f.show = sh at hsh ⊢
    have G := fun w1 h => G w1 hOk h
    have L := fun w1 => L w1 hOk.out.shows
    generalize f.outer ++ [2] = O at hO G hsh ⊢
    generalize f.mid ++ bytesB f.body = I at hI hI0 L hsh ⊢
    have Hsh : Hid (strB (O ++ I) = sh) := hsh
    clear hsh hOk hok
    obtain ⟨tt, frm, tags, src, dst, proto, sport, dport, mark, sum, body⟩ := f
    simp only [Fr.val] at F G L hT hc ⊢
    obtain ⟨len, hlen⟩ : ∃ n, tags.length = n := ⟨_, rfl⟩
    simp only [hlen] at F G L hT ⊢
    clear hlen
    have F' : Hid _ := F
    have G' : Hid _ := G
    have L' : Hid _ := L
    clear F G L
    go_enter Tryd.func12, Tryd.ntmps12
    go_wp2_with fail
    have hbox := Boxed.new w #[.int .i64 tt, .int .i64 frm, .slice a len cap, .int .i64 src, .int .i64 dst, .int .i64 proto, .int .i64 sport, .int .i64 dport, .int .i64 mark, .int .i64 sum, .string body] 26
    have hci := hc.out.alloc (.cells #[.int .i64 tt, .int .i64 frm, .slice a len cap, .int .i64 src, .int .i64 dst, .int .i64 proto, .int .i64 sport, .int .i64 dport, .int .i64 mark, .int .i64 sum, .string body] 26)
    generalize hw1 : w.alloc (.cells #[.int .i64 tt, .int .i64 frm, .slice a len cap, .int .i64 src, .int .i64 dst, .int .i64 proto, .int .i64 sport, .int .i64 dport, .int .i64 mark, .int .i64 sum, .string body] 26) = w1 at hbox hci ⊢
    have hs1 : w1.heap.size = w.heap.size + 1 := by rw [← hw1]; simp
    have Hw1 : Hid (∀ w', Below (w.heap.size + 1) w1 w' → Below w.heap.size w w') := by
      show ∀ w', _
      intro w' g; rw [← hw1] at g; exact below_of_alloc g
    have H0 : Hid (Boxed w1 w.heap.size _ _ ∧ IntsAt w1 a tags ∧ w1.heap.size = w.heap.size + 1) := ⟨hbox, hci, hs1⟩
    clear hbox hci hw1 hc hs1
    refine (F'.out w1 H0.out.2.1).mono ?_
    rintro e w2 ⟨rfl, b2⟩
    have H2 : Hid (Below (w.heap.size + 1) w1 w2) := by rw [← H0.out.2.2]; exact b2
    clear b2
    have hb2 := H0.out.1.below (Nat.lt_succ_self _) H2.out
    have c0 := hb2.cell 0 rfl
    have c1 := hb2.cell 1 rfl
    have c2 := hb2.cell 2 rfl
    have c3 := hb2.cell 3 rfl
    have c4 := hb2.cell 4 rfl
    have c5 := hb2.cell 5 rfl
    have c6 := hb2.cell 6 rfl
    have c7 := hb2.cell 7 rfl
    have c8 := hb2.cell 8 rfl
    have c9 := hb2.cell 9 rfl
    have c10 := hb2.cell 10 rfl
    have Hb2 : Hid (Boxed w2 w.heap.size _ _) := hb2
    have s2 : w.heap.size < w2.heap.size := by have := H2.out.size; have := H0.out.2.2; omega
    have Hi2 : Hid (IntsAt w2 a tags) := ints_below H0.out.2.1 (Nat.le_of_eq H0.out.2.2) H2.out
    have hOI : 0 < (O ++ I).length := by rw [List.length_append]; omega
    clear hb2
    go_wp2_with fail
    go_region_law (first | (refine step_call rfl 32 rfl #[.agg #[.int .i64 tt, .int .i64 frm, .slice a len cap, .int .i64 src, .int .i64 dst, .int .i64 proto, .int .i64 sport, .int .i64 dport, .int .i64 mark, .int .i64 sum, .string body]] (by kernel_rfl) (L'.out _) ?_; rintro e w4 ⟨v4, rfl, r4, b4⟩; refine ⟨v4, rfl, ?_⟩; obtain ⟨g4, cap4, rfl⟩ := r4.form hI0; have K4 : Hid (Row w2.heap.size w4 v3 O ∧ Row w2.heap.size w4 (.slice (some ⟨g4, 0, none⟩) I.length cap4) I ∧ Below w2.heap.size w2 w4) := ⟨KO.out.1.below b4 (Nat.le_refl _), r4.mono KO.out.2.size, KO.out.2.trans (b4.mono KO.out.2.size)⟩; clear r4 b4) | (refine step_call rfl 31 rfl #[.agg #[.int .i64 tt, .int .i64 frm, .slice a len cap, .int .i64 src, .int .i64 dst, .int .i64 proto, .int .i64 sport, .int .i64 dport, .int .i64 mark, .int .i64 sum, .string body]] (by kernel_rfl) (G'.out _ ?_) ?_; exact Hi2.out.below KI.out.2; rintro e w4 ⟨v3, rfl, r4, b4⟩; refine ⟨v3, rfl, ?_⟩; have K4 : Hid (Row w2.heap.size w4 v3 O ∧ Row w2.heap.size w4 (.slice (some ⟨g3, 0, none⟩) I.length cap3) I ∧ Below w2.heap.size w2 w4) := ⟨r4.mono KI.out.2.size, KI.out.1.below b4 (Nat.le_refl _), KI.out.2.trans (b4.mono KI.out.2.size)⟩; clear r4 b4) | (refine step_call rfl 32 rfl #[.agg #[.int .i64 tt, .int .i64 frm, .slice a len cap, .int .i64 src, .int .i64 dst, .int .i64 proto, .int .i64 sport, .int .i64 dport, .int .i64 mark, .int .i64 sum, .string body]] (by kernel_rfl) (L'.out _) ?_; rintro e w3 ⟨v3, rfl, r3, b3⟩; refine ⟨v3, rfl, ?_⟩; obtain ⟨g3, cap3, rfl⟩ := r3.form hI0; have KI : Hid (Row w2.heap.size w3 (.slice (some ⟨g3, 0, none⟩) I.length cap3) I ∧ Below w2.heap.size w2 w3) := ⟨r3, (Below.refl _ w2).drew.trans b3⟩; have hb3 := Hb2.out.below s2 KI.out.2; have d0 := hb3.cell 0 rfl; have d1 := hb3.cell 1 rfl; have d2 := hb3.cell 2 rfl; have d3 := hb3.cell 3 rfl; have d4 := hb3.cell 4 rfl; have d5 := hb3.cell 5 rfl; have d6 := hb3.cell 6 rfl; have d7 := hb3.cell 7 rfl; have d8 := hb3.cell 8 rfl; have d9 := hb3.cell 9 rfl; have d10 := hb3.cell 10 rfl; clear r3 b3 hb3) | (refine step_call rfl 31 rfl #[.agg #[.int .i64 tt, .int .i64 frm, .slice a len cap, .int .i64 src, .int .i64 dst, .int .i64 proto, .int .i64 sport, .int .i64 dport, .int .i64 mark, .int .i64 sum, .string body]] (by kernel_rfl) (G'.out _ ?_) ?_; exact Hi2.out; rintro e w3 ⟨v3, rfl, r3, b3⟩; refine ⟨v3, rfl, ?_⟩; have KO : Hid (Row w2.heap.size w3 v3 O ∧ Below w2.heap.size w2 w3) := ⟨r3, (Below.refl _ w2).drew.trans b3⟩; have hb3 := Hb2.out.below s2 KO.out.2; have d0 := hb3.cell 0 rfl; have d1 := hb3.cell 1 rfl; have d2 := hb3.cell 2 rfl; have d3 := hb3.cell 3 rfl; have d4 := hb3.cell 4 rfl; have d5 := hb3.cell 5 rfl; have d6 := hb3.cell 6 rfl; have d7 := hb3.cell 7 rfl; have d8 := hb3.cell 8 rfl; have d9 := hb3.cell 9 rfl; have d10 := hb3.cell 10 rfl; clear r3 b3 hb3) | (refine step_appN rfl (.tmp 7) (.tmp 9) rfl w2.heap.size w2.heap.size _ O I _ _ rfl K4.out.1 rfl K4.out.2.1 ?_ K4.out.2.2.size ?_; omega; intro v5 w5 r5 b5; obtain ⟨g5, cap5, rfl⟩ := r5.form hOI; have K5 : Hid (Below w.heap.size w w5) := (Hw1.out _ H2.out).trans ((K4.out.2.2.trans b5).mono (Nat.le_of_lt s2)); have k1 := r5.conv; have k2 := r5.bytes; simp only [List.length_append] at k1 k2; clear r5 b5))
    all_goals (go_wp2; go_ret; exact ⟨by rw [← Hsh.out]; rfl, K5.out⟩)
end Go.Proofs.YtddjflaceokoaaaDoor

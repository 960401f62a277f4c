/-
  The walks of the laws over one frame: the program's function and the model's answer the same, and the frame stays. By the verifier.
-/
import Derived.Test.YtclkkhiakjmolaaFrTo
import Derived.Test.YtclkkhiakjmolaaFrSize
import Derived.Deep.RegionWith
namespace Go.Proofs.Ytclkkhiakjmolaa
open Go.RowKit

set_option maxHeartbeats 6400000 in
set_option maxRecDepth 100000 in
theorem fnExactFrameOk_walk (f : Fr) (a : Option Addr) (cap : Nat) (w : World) (hl : (f.tags.length : Int) ≤ 9223372036854775807) (hB : (f.body.size : Int) ≤ 9223372036854775807) (hc : Hid (IntsAt w a f.tags)) :
    Calls Try.prog 3 #[f.val a cap] w fun e w' => e = .returned (.bool true) ∧ Below w.heap.size w w' := by
  have Z := fun w1 => szFrames f a cap w1 hl hB
  have C := fun w1 (h : f.tags.length ≤ 1048576) (g : Hid (IntsAt w1 a f.tags)) => toFrames f a cap w1 h g
  have S := fun b w1 (h : f.tags.length ≤ 1048576) (g : Hid (IntsAt w1 (some ⟨b, 0, none⟩) f.tags)) => specFrameOk f (some ⟨b, 0, none⟩) f.tags.length w1 h g
  have I := fun b w1 (h : f.tags.length ≤ 1048576) (g : Hid (IntsAt w1 (some ⟨b, 0, none⟩) f.tags)) => implFrameOk f (some ⟨b, 0, none⟩) f.tags.length w1 h g
  have E := fun b1 b2 w1 (h : f.tags.length ≤ 1048576) (g1 : Hid (IntsAt w1 (some ⟨b1, 0, none⟩) f.tags)) (g2 : Hid (IntsAt w1 (some ⟨b2, 0, none⟩) f.tags)) => eqFrames f (some ⟨b1, 0, none⟩) (some ⟨b2, 0, none⟩) f.tags.length f.tags.length w1 h g1 g2
  generalize f.ok = R at S I
  obtain ⟨to, frm, tags, src, dst, proto, sport, dport, mark, sum, body⟩ := f
  simp only [Fr.val] at Z C S I E hl hB hc ⊢
  obtain ⟨len, hlen⟩ : ∃ n, tags.length = n := ⟨_, rfl⟩
  simp only [hlen] at Z C S I E hl ⊢
  clear hlen
  have Z' : Hid _ := Z
  have C' : Hid _ := C
  have S' : Hid _ := S
  have I' : Hid _ := I
  have E' : Hid _ := E
  clear Z C S I E
  go_enter Try.func3, Try.ntmps3
  go_wp2_with fail
  refine (Z'.out _).mono ?_
  have hbox := Boxed.new w #[.int .i64 to, .int .i64 frm, .slice a len cap, .int .i64 src, .int .i64 dst, .int .i64 proto, .int .i64 sport, .int .i64 dport, .int .i64 mark, .int .i64 sum, .string body] 24
  have hci := hc.out.alloc (.cells #[.int .i64 to, .int .i64 frm, .slice a len cap, .int .i64 src, .int .i64 dst, .int .i64 proto, .int .i64 sport, .int .i64 dport, .int .i64 mark, .int .i64 sum, .string body] 24)
  generalize hw1 : w.alloc (.cells #[.int .i64 to, .int .i64 frm, .slice a len cap, .int .i64 src, .int .i64 dst, .int .i64 proto, .int .i64 sport, .int .i64 dport, .int .i64 mark, .int .i64 sum, .string body] 24) = w1 at hbox hci ⊢
  have hs1 : w1.heap.size = w.heap.size + 1 := by rw [← hw1]; simp
  have Hw1 : Hid (∀ w', Below (w.heap.size + 1) w1 w' → Below w.heap.size w w') := by
    show ∀ w', _
    intro w' g; rw [← hw1] at g; exact below_of_alloc g
  have H1 : Hid (Boxed w1 w.heap.size _ _ ∧ IntsAt w1 a tags ∧ w1.heap.size = w.heap.size + 1) := ⟨hbox, hci, hs1⟩
  clear hbox hci hw1 hc hs1
  rintro e w2 ⟨n, rfl, hn, b2⟩
  have hb2 : Below (w.heap.size + 1) w1 w2 := by rw [← H1.out.2.2]; exact b2
  have H2 : Hid (Boxed w2 w.heap.size _ _ ∧ IntsAt w2 a tags ∧ Below (w.heap.size + 1) w1 w2) := ⟨H1.out.1.below (by omega) hb2, H1.out.2.1.below b2, hb2⟩
  clear b2 hb2
  have s2 : w.heap.size + 1 ≤ w2.heap.size := by have := H2.out.2.2.size; have := H1.out.2.2; omega
  by_cases hneg : n < 0
  · go_wp2
    go_ret
    exact ⟨rfl, Hw1.out _ H2.out.2.2⟩
  have hlen := (hn (by omega)).1
  clear hn
  have c0 := H2.out.1.cell 0 rfl
  have c1 := H2.out.1.cell 1 rfl
  have c2 := H2.out.1.cell 2 rfl
  have c3 := H2.out.1.cell 3 rfl
  have c4 := H2.out.1.cell 4 rfl
  have c5 := H2.out.1.cell 5 rfl
  have c6 := H2.out.1.cell 6 rfl
  have c7 := H2.out.1.cell 7 rfl
  have c8 := H2.out.1.cell 8 rfl
  have c9 := H2.out.1.cell 9 rfl
  have c10 := H2.out.1.cell 10 rfl
  go_wp2_with fail
  refine (C'.out w2 hlen H2.out.2.1).mono ?_
  clear c0 c1 c2 c3 c4 c5 c6 c7 c8 c9 c10
  rintro e w3 ⟨b3, rfl, i3, be3⟩
  have H3 : Hid (IntsAt w3 (some ⟨b3, 0, none⟩) tags ∧ Below w2.heap.size w2 w3) := ⟨i3, be3⟩
  clear i3 be3
  go_wp2_with fail
  refine (S'.out b3 w3 hlen H3.out.1).mono ?_
  rintro e w4 ⟨rfl, be4⟩
  have H4 : Hid (Boxed w4 w.heap.size #[.int .i64 to, .int .i64 frm, .slice a len cap, .int .i64 src, .int .i64 dst, .int .i64 proto, .int .i64 sport, .int .i64 dport, .int .i64 mark, .int .i64 sum, .string body] 24 ∧ IntsAt w4 a tags ∧ Below (w.heap.size + 1) w1 w4) := by
    have g : Below w2.heap.size w2 w4 := H3.out.2.trans (be4.mono H3.out.2.size)
    exact ⟨H2.out.1.below (by omega) g, H2.out.2.1.below g, H2.out.2.2.trans (g.mono s2)⟩
  clear be4 H3 H2
  have s4 : w.heap.size + 1 ≤ w4.heap.size := by have := H4.out.2.2.size; have := H1.out.2.2; omega
  have c0 := H4.out.1.cell 0 rfl
  have c1 := H4.out.1.cell 1 rfl
  have c2 := H4.out.1.cell 2 rfl
  have c3 := H4.out.1.cell 3 rfl
  have c4 := H4.out.1.cell 4 rfl
  have c5 := H4.out.1.cell 5 rfl
  have c6 := H4.out.1.cell 6 rfl
  have c7 := H4.out.1.cell 7 rfl
  have c8 := H4.out.1.cell 8 rfl
  have c9 := H4.out.1.cell 9 rfl
  have c10 := H4.out.1.cell 10 rfl
  go_wp2_with fail
  refine (C'.out w4 hlen H4.out.2.1).mono ?_
  clear c0 c1 c2 c3 c4 c5 c6 c7 c8 c9 c10
  rintro e w5 ⟨b5, rfl, i5, be5⟩
  have H5 : Hid (IntsAt w5 (some ⟨b5, 0, none⟩) tags ∧ Below w4.heap.size w4 w5) := ⟨i5, be5⟩
  clear i5 be5
  go_wp2_with fail
  have hx := Boxed.new w5 #[.int .i64 to, .int .i64 frm, .slice (some ⟨b5, 0, none⟩) len len, .int .i64 src, .int .i64 dst, .int .i64 proto, .int .i64 sport, .int .i64 dport, .int .i64 mark, .int .i64 sum, .string body] 27
  have hi6 := H5.out.1.alloc (.cells #[.int .i64 to, .int .i64 frm, .slice (some ⟨b5, 0, none⟩) len len, .int .i64 src, .int .i64 dst, .int .i64 proto, .int .i64 sport, .int .i64 dport, .int .i64 mark, .int .i64 sum, .string body] 27)
  have hbe6 := bel_alloc H5.out.2 (Nat.le_refl _) (.cells #[.int .i64 to, .int .i64 frm, .slice (some ⟨b5, 0, none⟩) len len, .int .i64 src, .int .i64 dst, .int .i64 proto, .int .i64 sport, .int .i64 dport, .int .i64 mark, .int .i64 sum, .string body] 27)
  have hs6 : (w5.alloc (.cells #[.int .i64 to, .int .i64 frm, .slice (some ⟨b5, 0, none⟩) len len, .int .i64 src, .int .i64 dst, .int .i64 proto, .int .i64 sport, .int .i64 dport, .int .i64 mark, .int .i64 sum, .string body] 27)).heap.size = w5.heap.size + 1 := by simp
  generalize w5.alloc (.cells #[.int .i64 to, .int .i64 frm, .slice (some ⟨b5, 0, none⟩) len len, .int .i64 src, .int .i64 dst, .int .i64 proto, .int .i64 sport, .int .i64 dport, .int .i64 mark, .int .i64 sum, .string body] 27) = w6 at hx hi6 hbe6 hs6 ⊢
  have H6 : Hid (Boxed w6 w5.heap.size _ _ ∧ IntsAt w6 (some ⟨b5, 0, none⟩) tags ∧ Below w4.heap.size w4 w6 ∧ w6.heap.size = w5.heap.size + 1) := ⟨hx, hi6, hbe6, hs6⟩
  clear hx hi6 hbe6 hs6
  refine (I'.out b5 w6 hlen H6.out.2.1).mono ?_
  rintro e w7 ⟨rfl, be7⟩
  have H7 : Hid (Boxed w7 w.heap.size #[.int .i64 to, .int .i64 frm, .slice a len cap, .int .i64 src, .int .i64 dst, .int .i64 proto, .int .i64 sport, .int .i64 dport, .int .i64 mark, .int .i64 sum, .string body] 24 ∧ IntsAt w7 a tags ∧ Below (w.heap.size + 1) w1 w7 ∧ Boxed w7 w5.heap.size #[.int .i64 to, .int .i64 frm, .slice (some ⟨b5, 0, none⟩) len len, .int .i64 src, .int .i64 dst, .int .i64 proto, .int .i64 sport, .int .i64 dport, .int .i64 mark, .int .i64 sum, .string body] 27 ∧ IntsAt w7 (some ⟨b5, 0, none⟩) tags ∧ w5.heap.size < w7.heap.size) := by
    have g : Below w4.heap.size w4 w7 := H6.out.2.2.1.trans (be7.mono H6.out.2.2.1.size)
    have := be7.size
    have := H6.out.2.2.2
    exact ⟨H4.out.1.below (by omega) g, H4.out.2.1.below g, H4.out.2.2.trans (g.mono s4), H6.out.1.below (by omega) be7, H6.out.2.1.below be7, by omega⟩
  clear be7 H6 H4 H5
  have s7 : w.heap.size + 1 ≤ w7.heap.size := by have := H7.out.2.2.1.size; have := H1.out.2.2; omega
  have B8 : Hid (∀ (w7' w8 : World) (_ : Below w7'.heap.size w7' w8) (_ : w7' = w7 ∨ w7' = w7.drew ∨ w7' = w7.drew.drew), Below w7.heap.size w7 w8) := by
    show ∀ (w7' w8 : World) (_ : Below w7'.heap.size w7' w8) (_ : w7' = w7 ∨ w7' = w7.drew ∨ w7' = w7.drew.drew), Below w7.heap.size w7 w8
    rintro w7' w8 h (rfl | rfl | rfl)
    · exact h
    · exact (Below.refl _ w7).drew.trans h
    · exact (Below.refl _ w7).drew.drew.trans h
  have B9 : Hid (∀ (w8 w8' w9 : World) (_ : Below w7.heap.size w7 w8) (_ : Below w8'.heap.size w8' w9) (_ : w8' = w8 ∨ w8' = w8.drew ∨ w8' = w8.drew.drew), Below w.heap.size w8 w9) := by
    show ∀ (w8 w8' w9 : World) (_ : Below w7.heap.size w7 w8) (_ : Below w8'.heap.size w8' w9) (_ : w8' = w8 ∨ w8' = w8.drew ∨ w8' = w8.drew.drew), Below w.heap.size w8 w9
    rintro w8 w8' w9 h g (rfl | rfl | rfl)
    · exact g.mono (by have := h.size; omega)
    · exact (Below.refl _ w8).drew.trans (g.mono (by have := h.size; show w.heap.size ≤ w8.heap.size; omega))
    · exact (Below.refl _ w8).drew.drew.trans (g.mono (by have := h.size; show w.heap.size ≤ w8.heap.size; omega))
  have c0 := H7.out.1.cell 0 rfl
  have c1 := H7.out.1.cell 1 rfl
  have c2 := H7.out.1.cell 2 rfl
  have c3 := H7.out.1.cell 3 rfl
  have c4 := H7.out.1.cell 4 rfl
  have c5 := H7.out.1.cell 5 rfl
  have c6 := H7.out.1.cell 6 rfl
  have c7 := H7.out.1.cell 7 rfl
  have c8 := H7.out.1.cell 8 rfl
  have c9 := H7.out.1.cell 9 rfl
  have c10 := H7.out.1.cell 10 rfl
  have d0 := H7.out.2.2.2.1.cell 0 rfl
  have d1 := H7.out.2.2.2.1.cell 1 rfl
  have d2 := H7.out.2.2.2.1.cell 2 rfl
  have d3 := H7.out.2.2.2.1.cell 3 rfl
  have d4 := H7.out.2.2.2.1.cell 4 rfl
  have d5 := H7.out.2.2.2.1.cell 5 rfl
  have d6 := H7.out.2.2.2.1.cell 6 rfl
  have d7 := H7.out.2.2.2.1.cell 7 rfl
  have d8 := H7.out.2.2.2.1.cell 8 rfl
  have d9 := H7.out.2.2.2.1.cell 9 rfl
  have d10 := H7.out.2.2.2.1.cell 10 rfl
  go_wp2_with fail
  go_region_with (first | (go_at_call 8; refine (C'.out _ hlen ?_).mono ?_; exact H7.out.2.1; rintro e w8 ⟨b8, rfl, i8, be8x⟩; have be8 := B8.out _ w8 be8x (by simp); clear be8x; have K8 : Hid (IntsAt w8 (some ⟨b8, 0, none⟩) tags ∧ IntsAt w8 (some ⟨b5, 0, none⟩) tags ∧ Below w7.heap.size w7 w8 ∧ Boxed w8 w5.heap.size #[.int .i64 to, .int .i64 frm, .slice (some ⟨b5, 0, none⟩) len len, .int .i64 src, .int .i64 dst, .int .i64 proto, .int .i64 sport, .int .i64 dport, .int .i64 mark, .int .i64 sum, .string body] 27) := ⟨i8, H7.out.2.2.2.2.1.below be8, be8, H7.out.2.2.2.1.below H7.out.2.2.2.2.2 be8⟩; clear i8 be8; have x0 := K8.out.2.2.2.cell 0 rfl; have x1 := K8.out.2.2.2.cell 1 rfl; have x2 := K8.out.2.2.2.cell 2 rfl; have x3 := K8.out.2.2.2.cell 3 rfl; have x4 := K8.out.2.2.2.cell 4 rfl; have x5 := K8.out.2.2.2.cell 5 rfl; have x6 := K8.out.2.2.2.cell 6 rfl; have x7 := K8.out.2.2.2.cell 7 rfl; have x8 := K8.out.2.2.2.cell 8 rfl; have x9 := K8.out.2.2.2.cell 9 rfl; have x10 := K8.out.2.2.2.cell 10 rfl) | (go_at_call 10; refine (E'.out _ _ _ hlen ?_ ?_).mono ?_; exact K8.out.2.1; exact K8.out.1; rintro e w9 ⟨rfl, be9⟩; have K9 : Hid (Below w.heap.size w w9) := (Hw1.out _ (H7.out.2.2.1.trans (K8.out.2.2.1.mono s7))).trans (B9.out _ _ _ K8.out.2.2.1 be9 (by simp)); clear be9))
  all_goals (go_wp2; go_ret; exact ⟨rfl, K9.out⟩)
end Go.Proofs.Ytclkkhiakjmolaa

/-
  The walk of the program's Marked. By the verifier.
-/
import Derived.Test.YtppgidcebhfjkaaSumMarkD
namespace Go.Proofs.Ytppgidcebhfjkaa
open Go.RowKit

set_option maxHeartbeats 6400000 in
set_option maxRecDepth 100000 in
theorem implMarked (f : Fr) (m : Int) (a : Option Addr) (cap : Nat) (w : World) (hT : f.tags.length ≤ 1048576) (hc : Hid (IntsAt w a f.tags)) :
    Calls Try.prog 8 #[f.val a cap, .int .i64 m] w (MPost (markedOr f m) w) := by
  have F := fun w1 (h : Hid (IntsAt w1 a f.tags)) => implFrameOk f a cap w1 hT h
  have G := fun w1 (h : Hid (IntsAt w1 a f.tags)) => implSumOf f a cap w1 hT h
  have G2 := fun a' cap' w1 (ok : Hid (f.ok = true ∧ inB 0 3 m = true)) (h : Hid (IntsAt w1 a' f.tags)) => by
    have := implSumOf (f.withMark m) a' cap' w1 hT h
    rw [Fr.sumOr, if_pos (Fr.withMark_ok ok.out.1 ok.out.2)] at this
    exact this
  have hso : f.ok = true → f.sumOr = f.sumOf := fun h => by rw [Fr.sumOr, if_pos h]
  have hR0 := @markedOr_no f m
  have hR1 := @markedOr_yes f m
  have hT2 := @Fr.ok_tags f
  generalize markedOr f m = R at hR0 hR1 ⊢
  have hgood : good f m = (f.ok && inB 0 3 m && decide (f.sum = f.sumOf)) := rfl
  generalize good f m = gd at hR0 hR1 hgood
  simp only [Fr.marked] at hR1
  generalize hs2 : (f.withMark m).sumOf = s2 at G2 hR1
  generalize f.sumOr = so at G hso
  generalize f.sumOf = sm at hso hgood
  generalize f.ok = okb at F G2 hgood hT2 hso
  have Hso : Hid _ := hso
  clear hso
  clear hs2
  obtain ⟨tt, frm, tags, src, dst, proto, sport, dport, mark, sum, body⟩ := f
  simp only [Fr.val, Fr.withMark] at F G G2 hR1 hgood hT2 hT hc ⊢
  obtain ⟨len, hlen⟩ : ∃ n, tags.length = n := ⟨_, rfl⟩
  simp only [hlen] at F G G2 hT hT2 ⊢
  have Hlen : Hid (tags.length = len) := hlen
  clear hlen
  have F' : Hid _ := F
  have G' : Hid _ := G
  have G2' : Hid _ := G2
  have R0' : Hid _ := hR0
  have R1' : Hid _ := hR1
  have hT2' : Hid _ := hT2
  have Hg : Hid _ := hgood
  clear F G G2 hR0 hR1 hT2 hgood
  go_enter Try.func8, Try.ntmps8
  go_upto_region 1 with fail
  have hx := Boxed.new w #[.int .i64 tt, .int .i64 frm, .slice a len cap, .int .i64 src, .int .i64 dst, .int .i64 proto, .int .i64 sport, .int .i64 dport, .int .i64 mark, .int .i64 sum, .string body] 29
  have hy := Boxed.new (w.alloc (.cells #[.int .i64 tt, .int .i64 frm, .slice a len cap, .int .i64 src, .int .i64 dst, .int .i64 proto, .int .i64 sport, .int .i64 dport, .int .i64 mark, .int .i64 sum, .string body] 29)) zeroFr 29
  have hx2 := hx.more (.cells zeroFr 29)
  have bel1 : Below w.heap.size w ((w.alloc (.cells #[.int .i64 tt, .int .i64 frm, .slice a len cap, .int .i64 src, .int .i64 dst, .int .i64 proto, .int .i64 sport, .int .i64 dport, .int .i64 mark, .int .i64 sum, .string body] 29)).alloc (.cells zeroFr 29)) := bel_alloc (bel_alloc (Below.refl _ _) (Nat.le_refl _) _) (Nat.le_refl _) _
  rw [World.size_alloc] at hy
  unfold zeroFr at hx2 hy bel1
  generalize (w.alloc (.cells #[.int .i64 tt, .int .i64 frm, .slice a len cap, .int .i64 src, .int .i64 dst, .int .i64 proto, .int .i64 sport, .int .i64 dport, .int .i64 mark, .int .i64 sum, .string body] 29)).alloc (.cells _ 29) = w1 at hx2 hy bel1 ⊢
  have H1 : Hid (Boxed w1 w.heap.size #[.int .i64 tt, .int .i64 frm, .slice a len cap, .int .i64 src, .int .i64 dst, .int .i64 proto, .int .i64 sport, .int .i64 dport, .int .i64 mark, .int .i64 sum, .string body] 29 ∧ Boxed w1 (w.heap.size + 1) zeroFr 29 ∧ Below w.heap.size w w1) := ⟨hx2, hy, bel1⟩
  clear hx hy hx2 bel1
  have c0 : w1.cell? ⟨w.heap.size, 0, none⟩ = some (.int .i64 tt) := H1.out.1.cell 0 rfl
  have c1 : w1.cell? ⟨w.heap.size, 1, none⟩ = some (.int .i64 frm) := H1.out.1.cell 1 rfl
  have c2 : w1.cell? ⟨w.heap.size, 2, none⟩ = some (.slice a len cap) := H1.out.1.cell 2 rfl
  have c3 : w1.cell? ⟨w.heap.size, 3, none⟩ = some (.int .i64 src) := H1.out.1.cell 3 rfl
  have c4 : w1.cell? ⟨w.heap.size, 4, none⟩ = some (.int .i64 dst) := H1.out.1.cell 4 rfl
  have c5 : w1.cell? ⟨w.heap.size, 5, none⟩ = some (.int .i64 proto) := H1.out.1.cell 5 rfl
  have c6 : w1.cell? ⟨w.heap.size, 6, none⟩ = some (.int .i64 sport) := H1.out.1.cell 6 rfl
  have c7 : w1.cell? ⟨w.heap.size, 7, none⟩ = some (.int .i64 dport) := H1.out.1.cell 7 rfl
  have c8 : w1.cell? ⟨w.heap.size, 8, none⟩ = some (.int .i64 mark) := H1.out.1.cell 8 rfl
  have c9 : w1.cell? ⟨w.heap.size, 9, none⟩ = some (.int .i64 sum) := H1.out.1.cell 9 rfl
  have c10 : w1.cell? ⟨w.heap.size, 10, none⟩ = some (.string body) := H1.out.1.cell 10 rfl
  go_cut [21] (fun s wc => Hid (s = .bool (!gd) ∧ Boxed wc w.heap.size #[.int .i64 tt, .int .i64 frm, .slice a len cap, .int .i64 src, .int .i64 dst, .int .i64 proto, .int .i64 sport, .int .i64 dport, .int .i64 mark, .int .i64 sum, .string body] 29 ∧ Boxed wc (w.heap.size + 1) zeroFr 29 ∧ Below w.heap.size w wc))
  case first =>
    cases okb with
    | false =>
      obtain rfl : gd = false := by have := Hg.out; simpa using this
      first | (go_region_with (go_at_call 15; refine (F'.out _ ?_).mono ?_; exact hc.out.below H1.out.2.2.drew; rintro e w2 ⟨rfl, b2⟩; have H2 : Hid (Boxed w2 w.heap.size #[.int .i64 tt, .int .i64 frm, .slice a len cap, .int .i64 src, .int .i64 dst, .int .i64 proto, .int .i64 sport, .int .i64 dport, .int .i64 mark, .int .i64 sum, .string body] 29 ∧ Boxed w2 (w.heap.size + 1) zeroFr 29 ∧ Below w.heap.size w w2) := ⟨Boxed.below (w := w1.drew) H1.out.1 H1.out.1.under b2, Boxed.below (w := w1.drew) H1.out.2.1 H1.out.2.1.under b2, H1.out.2.2.drew.trans (b2.mono H1.out.2.2.size)⟩; clear b2 c0 c1 c2 c3 c4 c5 c6 c7 c8 c9 c10; have lt2 : w.heap.size < w2.heap.size := H2.out.1.under; have d0 : w2.cell? ⟨w.heap.size, 0, none⟩ = some (.int .i64 tt) := H2.out.1.cell 0 rfl; have d1 : w2.cell? ⟨w.heap.size, 1, none⟩ = some (.int .i64 frm) := H2.out.1.cell 1 rfl; have d2 : w2.cell? ⟨w.heap.size, 2, none⟩ = some (.slice a len cap) := H2.out.1.cell 2 rfl; have d3 : w2.cell? ⟨w.heap.size, 3, none⟩ = some (.int .i64 src) := H2.out.1.cell 3 rfl; have d4 : w2.cell? ⟨w.heap.size, 4, none⟩ = some (.int .i64 dst) := H2.out.1.cell 4 rfl; have d5 : w2.cell? ⟨w.heap.size, 5, none⟩ = some (.int .i64 proto) := H2.out.1.cell 5 rfl; have d6 : w2.cell? ⟨w.heap.size, 6, none⟩ = some (.int .i64 sport) := H2.out.1.cell 6 rfl; have d7 : w2.cell? ⟨w.heap.size, 7, none⟩ = some (.int .i64 dport) := H2.out.1.cell 7 rfl; have d8 : w2.cell? ⟨w.heap.size, 8, none⟩ = some (.int .i64 mark) := H2.out.1.cell 8 rfl; have d9 : w2.cell? ⟨w.heap.size, 9, none⟩ = some (.int .i64 sum) := H2.out.1.cell 9 rfl; have d10 : w2.cell? ⟨w.heap.size, 10, none⟩ = some (.string body) := H2.out.1.cell 10 rfl)) | fail
      all_goals (go_wp2_with fail; go_meet; exact ⟨rfl, H2.out⟩)
    | true =>
      cases hm : inB 0 3 m with
      | false =>
        obtain rfl : gd = false := by have := Hg.out; rw [hm] at this; simpa using this
        have M : ∀ w1 a1, Hid (IntsAt w1 a1 [m]) → Calls Try.prog 21 #[.int .i64 3, .slice a1 1 1] w1 (fun e w' => e = .returned (.bool false) ∧ w' = w1) := fun w1 a1 h => by
          have := implUpTo 3 a1 1 [m] w1 (by simp) h
          simp only [List.all_cons, List.all_nil, Bool.and_true, hm] at this
          exact this
        have M' : Hid (∀ w1 {a1}, Hid (IntsAt w1 a1 [m]) → Calls Try.prog 21 #[.int .i64 3, .slice a1 1 1] w1 (fun e w' => e = .returned (.bool false) ∧ w' = w1)) := fun w1 {a1} => M w1 a1
        clear M hm
        first | (go_region_with (first | (go_at_call 15; refine (F'.out _ ?_).mono ?_; exact hc.out.below H1.out.2.2.drew; rintro e w2 ⟨rfl, b2⟩; have H2 : Hid (Boxed w2 w.heap.size #[.int .i64 tt, .int .i64 frm, .slice a len cap, .int .i64 src, .int .i64 dst, .int .i64 proto, .int .i64 sport, .int .i64 dport, .int .i64 mark, .int .i64 sum, .string body] 29 ∧ Boxed w2 (w.heap.size + 1) zeroFr 29 ∧ Below w.heap.size w w2) := ⟨Boxed.below (w := w1.drew) H1.out.1 H1.out.1.under b2, Boxed.below (w := w1.drew) H1.out.2.1 H1.out.2.1.under b2, H1.out.2.2.drew.trans (b2.mono H1.out.2.2.size)⟩; clear b2 c0 c1 c2 c3 c4 c5 c6 c7 c8 c9 c10; have lt2 : w.heap.size < w2.heap.size := H2.out.1.under; have d0 : w2.cell? ⟨w.heap.size, 0, none⟩ = some (.int .i64 tt) := H2.out.1.cell 0 rfl; have d1 : w2.cell? ⟨w.heap.size, 1, none⟩ = some (.int .i64 frm) := H2.out.1.cell 1 rfl; have d2 : w2.cell? ⟨w.heap.size, 2, none⟩ = some (.slice a len cap) := H2.out.1.cell 2 rfl; have d3 : w2.cell? ⟨w.heap.size, 3, none⟩ = some (.int .i64 src) := H2.out.1.cell 3 rfl; have d4 : w2.cell? ⟨w.heap.size, 4, none⟩ = some (.int .i64 dst) := H2.out.1.cell 4 rfl; have d5 : w2.cell? ⟨w.heap.size, 5, none⟩ = some (.int .i64 proto) := H2.out.1.cell 5 rfl; have d6 : w2.cell? ⟨w.heap.size, 6, none⟩ = some (.int .i64 sport) := H2.out.1.cell 6 rfl; have d7 : w2.cell? ⟨w.heap.size, 7, none⟩ = some (.int .i64 dport) := H2.out.1.cell 7 rfl; have d8 : w2.cell? ⟨w.heap.size, 8, none⟩ = some (.int .i64 mark) := H2.out.1.cell 8 rfl; have d9 : w2.cell? ⟨w.heap.size, 9, none⟩ = some (.int .i64 sum) := H2.out.1.cell 9 rfl; have d10 : w2.cell? ⟨w.heap.size, 10, none⟩ = some (.string body) := H2.out.1.cell 10 rfl) | (go_at_call 21; refine (M'.out _ (ints_new _ _ _ _ _ (by simp) rfl)).mono ?_; rintro e w3 ⟨rfl, hw3⟩; subst hw3))) | fail
        all_goals (go_wp2_with fail; go_meet; exact ⟨rfl, H2.out.1.more _, H2.out.2.1.more _, H2.out.2.2.alloc H2.out.2.2.size _⟩)
      | true =>
        obtain rfl : so = sm := Hso.out rfl
        by_cases hsm : sum = so
        · obtain rfl : gd = true := by have := Hg.out; rw [hm, hsm] at this; simpa using this
          subst hsm
          clear Hg
          have M : ∀ w1 a1, Hid (IntsAt w1 a1 [m]) → Calls Try.prog 21 #[.int .i64 3, .slice a1 1 1] w1 (fun e w' => e = .returned (.bool true) ∧ w' = w1) := fun w1 a1 h => by
            have := implUpTo 3 a1 1 [m] w1 (by simp) h
            simp only [List.all_cons, List.all_nil, Bool.and_true, hm] at this
            exact this
          have M' : Hid (∀ w1 {a1}, Hid (IntsAt w1 a1 [m]) → Calls Try.prog 21 #[.int .i64 3, .slice a1 1 1] w1 (fun e w' => e = .returned (.bool true) ∧ w' = w1)) := fun w1 {a1} => M w1 a1
          clear M hm
          first | (go_region_with (first | (go_at_call 15; refine (F'.out _ ?_).mono ?_; exact hc.out.below H1.out.2.2.drew; rintro e w2 ⟨rfl, b2⟩; have H2 : Hid (Boxed w2 w.heap.size #[.int .i64 tt, .int .i64 frm, .slice a len cap, .int .i64 src, .int .i64 dst, .int .i64 proto, .int .i64 sport, .int .i64 dport, .int .i64 mark, .int .i64 sum, .string body] 29 ∧ Boxed w2 (w.heap.size + 1) zeroFr 29 ∧ Below w.heap.size w w2) := ⟨Boxed.below (w := w1.drew) H1.out.1 H1.out.1.under b2, Boxed.below (w := w1.drew) H1.out.2.1 H1.out.2.1.under b2, H1.out.2.2.drew.trans (b2.mono H1.out.2.2.size)⟩; clear b2 c0 c1 c2 c3 c4 c5 c6 c7 c8 c9 c10; have lt2 : w.heap.size < w2.heap.size := H2.out.1.under; have d0 : w2.cell? ⟨w.heap.size, 0, none⟩ = some (.int .i64 tt) := H2.out.1.cell 0 rfl; have d1 : w2.cell? ⟨w.heap.size, 1, none⟩ = some (.int .i64 frm) := H2.out.1.cell 1 rfl; have d2 : w2.cell? ⟨w.heap.size, 2, none⟩ = some (.slice a len cap) := H2.out.1.cell 2 rfl; have d3 : w2.cell? ⟨w.heap.size, 3, none⟩ = some (.int .i64 src) := H2.out.1.cell 3 rfl; have d4 : w2.cell? ⟨w.heap.size, 4, none⟩ = some (.int .i64 dst) := H2.out.1.cell 4 rfl; have d5 : w2.cell? ⟨w.heap.size, 5, none⟩ = some (.int .i64 proto) := H2.out.1.cell 5 rfl; have d6 : w2.cell? ⟨w.heap.size, 6, none⟩ = some (.int .i64 sport) := H2.out.1.cell 6 rfl; have d7 : w2.cell? ⟨w.heap.size, 7, none⟩ = some (.int .i64 dport) := H2.out.1.cell 7 rfl; have d8 : w2.cell? ⟨w.heap.size, 8, none⟩ = some (.int .i64 mark) := H2.out.1.cell 8 rfl; have d9 : w2.cell? ⟨w.heap.size, 9, none⟩ = some (.int .i64 sum) := H2.out.1.cell 9 rfl; have d10 : w2.cell? ⟨w.heap.size, 10, none⟩ = some (.string body) := H2.out.1.cell 10 rfl) | (go_at_call 21; refine (M'.out _ (ints_new _ _ _ _ _ (by simp) rfl)).mono ?_; rintro e w3 ⟨rfl, hw3⟩; subst hw3) | (go_at_call 13; refine (G'.out _ ?_).mono ?_; exact hc.out.below (H2.out.2.2.alloc H2.out.2.2.size _); rintro e w4 ⟨rfl, b4⟩; have H4 : Hid (Boxed w4 w.heap.size #[.int .i64 tt, .int .i64 frm, .slice a len cap, .int .i64 src, .int .i64 dst, .int .i64 proto, .int .i64 sport, .int .i64 dport, .int .i64 mark, .int .i64 sum, .string body] 29 ∧ Boxed w4 (w.heap.size + 1) zeroFr 29 ∧ Below w.heap.size w w4) := ⟨(H2.out.1.more _).below (H2.out.1.more _).under b4, (H2.out.2.1.more _).below (H2.out.2.1.more _).under b4, (H2.out.2.2.alloc H2.out.2.2.size _).trans (b4.mono (H2.out.2.2.alloc H2.out.2.2.size _).size)⟩; clear b4 d0 d1 d2 d3 d4 d5 d6 d7 d8 d9 d10; have e9 : w4.cell? ⟨w.heap.size, 9, none⟩ = some (.int .i64 sum) := H4.out.1.cell 9 rfl))) | fail
          all_goals (go_wp2_with fail; go_meet; exact ⟨by simp, H4.out⟩)
        · obtain rfl : gd = false := by have := Hg.out; rw [hm, decide_eq_false hsm] at this; simpa using this
          have M : ∀ w1 a1, Hid (IntsAt w1 a1 [m]) → Calls Try.prog 21 #[.int .i64 3, .slice a1 1 1] w1 (fun e w' => e = .returned (.bool true) ∧ w' = w1) := fun w1 a1 h => by
            have := implUpTo 3 a1 1 [m] w1 (by simp) h
            simp only [List.all_cons, List.all_nil, Bool.and_true, hm] at this
            exact this
          have M' : Hid (∀ w1 {a1}, Hid (IntsAt w1 a1 [m]) → Calls Try.prog 21 #[.int .i64 3, .slice a1 1 1] w1 (fun e w' => e = .returned (.bool true) ∧ w' = w1)) := fun w1 {a1} => M w1 a1
          clear M hm
          first | (go_region_with (first | (go_at_call 15; refine (F'.out _ ?_).mono ?_; exact hc.out.below H1.out.2.2.drew; rintro e w2 ⟨rfl, b2⟩; have H2 : Hid (Boxed w2 w.heap.size #[.int .i64 tt, .int .i64 frm, .slice a len cap, .int .i64 src, .int .i64 dst, .int .i64 proto, .int .i64 sport, .int .i64 dport, .int .i64 mark, .int .i64 sum, .string body] 29 ∧ Boxed w2 (w.heap.size + 1) zeroFr 29 ∧ Below w.heap.size w w2) := ⟨Boxed.below (w := w1.drew) H1.out.1 H1.out.1.under b2, Boxed.below (w := w1.drew) H1.out.2.1 H1.out.2.1.under b2, H1.out.2.2.drew.trans (b2.mono H1.out.2.2.size)⟩; clear b2 c0 c1 c2 c3 c4 c5 c6 c7 c8 c9 c10; have lt2 : w.heap.size < w2.heap.size := H2.out.1.under; have d0 : w2.cell? ⟨w.heap.size, 0, none⟩ = some (.int .i64 tt) := H2.out.1.cell 0 rfl; have d1 : w2.cell? ⟨w.heap.size, 1, none⟩ = some (.int .i64 frm) := H2.out.1.cell 1 rfl; have d2 : w2.cell? ⟨w.heap.size, 2, none⟩ = some (.slice a len cap) := H2.out.1.cell 2 rfl; have d3 : w2.cell? ⟨w.heap.size, 3, none⟩ = some (.int .i64 src) := H2.out.1.cell 3 rfl; have d4 : w2.cell? ⟨w.heap.size, 4, none⟩ = some (.int .i64 dst) := H2.out.1.cell 4 rfl; have d5 : w2.cell? ⟨w.heap.size, 5, none⟩ = some (.int .i64 proto) := H2.out.1.cell 5 rfl; have d6 : w2.cell? ⟨w.heap.size, 6, none⟩ = some (.int .i64 sport) := H2.out.1.cell 6 rfl; have d7 : w2.cell? ⟨w.heap.size, 7, none⟩ = some (.int .i64 dport) := H2.out.1.cell 7 rfl; have d8 : w2.cell? ⟨w.heap.size, 8, none⟩ = some (.int .i64 mark) := H2.out.1.cell 8 rfl; have d9 : w2.cell? ⟨w.heap.size, 9, none⟩ = some (.int .i64 sum) := H2.out.1.cell 9 rfl; have d10 : w2.cell? ⟨w.heap.size, 10, none⟩ = some (.string body) := H2.out.1.cell 10 rfl) | (go_at_call 21; refine (M'.out _ (ints_new _ _ _ _ _ (by simp) rfl)).mono ?_; rintro e w3 ⟨rfl, hw3⟩; subst hw3) | (go_at_call 13; refine (G'.out _ ?_).mono ?_; exact hc.out.below (H2.out.2.2.alloc H2.out.2.2.size _); rintro e w4 ⟨rfl, b4⟩; have H4 : Hid (Boxed w4 w.heap.size #[.int .i64 tt, .int .i64 frm, .slice a len cap, .int .i64 src, .int .i64 dst, .int .i64 proto, .int .i64 sport, .int .i64 dport, .int .i64 mark, .int .i64 sum, .string body] 29 ∧ Boxed w4 (w.heap.size + 1) zeroFr 29 ∧ Below w.heap.size w w4) := ⟨(H2.out.1.more _).below (H2.out.1.more _).under b4, (H2.out.2.1.more _).below (H2.out.2.1.more _).under b4, (H2.out.2.2.alloc H2.out.2.2.size _).trans (b4.mono (H2.out.2.2.alloc H2.out.2.2.size _).size)⟩; clear b4 d0 d1 d2 d3 d4 d5 d6 d7 d8 d9 d10; have e9 : w4.cell? ⟨w.heap.size, 9, none⟩ = some (.int .i64 sum) := H4.out.1.cell 9 rfl))) | fail
          all_goals (go_wp2_with fail; go_meet; exact ⟨by simp [hsm], H4.out⟩)
  case rest =>
    obtain ⟨hgs, h5⟩ := hcut.out
    have H5 : Hid (_ ∧ _ ∧ Below w.heap.size w wc ∧ True) := ⟨h5.1, h5.2.1, h5.2.2, trivial⟩
    clear hcut h5
    cases gd with
    | false =>
      subst hgs
      go_wp2_with (refine wpList_store_row rfl 29 (.tmp 4) (.tmp 22) rfl (w.heap.size + 1) _ rfl rfl _ _ H5.out.2.1 (by kernel_rfl) rfl (frameOne _ _ _ _ _ _ _ _ _ _ _ _ _) ?_)
      refine bodyPost_ret (mEnd Try.results8 (setRow_heap wc (w.heap.size + 1) _ zeroFr _ _ H5.out.2.1) rfl rfl (by kernel_rfl)) rfl ⟨none, 0, ?_, ?_, below_setRow H5.out.2.2.1 (Nat.le_succ _) _⟩
      · rw [R0'.out (by first | exact trivial | exact rfl)]; rfl
      · rw [R0'.out (by first | exact trivial | exact rfl)]; exact World.ownsRow_nil _ _ _ _
    | true =>
      subst hgs
      obtain ⟨⟨rfl, hm⟩, rfl⟩ : (okb = true ∧ inB 0 3 m = true) ∧ sum = sm := by
        have h := Hg.out
        have h := h.symm
        rw [Bool.and_eq_true, Bool.and_eq_true, decide_eq_true_eq] at h
        exact h
      have Hm : Hid (inB 0 3 m = true) := hm
      have hm3 := inB_true.1 hm
      clear hm Hg
      have hl2 := (hT2'.out (by first | exact trivial | exact rfl)).1
      have hb2 := (hT2'.out (by first | exact trivial | exact rfl)).2
      have c2 : wc.cell? ⟨w.heap.size, 2, none⟩ = some (.slice a len cap) := H5.out.1.cell 2 rfl
      have i2 := H5.out.1.ice 2
      have hcI : Hid (IntsAt wc a tags) := hc.out.below H5.out.2.2.1
      have CL := implClone a cap tags wc hcI (by rw [Hlen.out]; omega)
      rw [Hlen.out] at CL
      have CL' : Hid _ := CL
      clear CL
      go_upto_region 4 with (go_at_call 25; refine Calls.mono CL'.out ?_; rintro e w6 ⟨v6, rfl, r6, b6⟩; obtain ⟨a6, cap6, rfl⟩ := r6.shape; have I6 : Hid (IRow wc.heap.size w6 (.slice a6 tags.length cap6) tags) := r6; clear r6; clear c2 i2; have H6 : Hid (Boxed w6 w.heap.size #[.int .i64 tt, .int .i64 frm, .slice a len cap, .int .i64 src, .int .i64 dst, .int .i64 proto, .int .i64 sport, .int .i64 dport, .int .i64 mark, .int .i64 sum, .string body] 29 ∧ Boxed w6 (w.heap.size + 1) zeroFr 29 ∧ Below w.heap.size w w6 ∧ True) := ⟨H5.out.1.below H5.out.1.under b6, H5.out.2.1.below H5.out.2.1.under b6, H5.out.2.2.1.trans (b6.mono H5.out.2.2.1.size), trivial⟩; clear b6; rw [Hlen.out]; have c2 : w6.cell? ⟨w.heap.size, 2, none⟩ = some (.slice a len cap) := H6.out.1.cell 2 rfl; have i2 := H6.out.1.ice 2)
      clear c2 i2
      have I7 : Hid (IRow wc.heap.size (w6.setCell ⟨w.heap.size, 2, none⟩ (.slice a6 len cap6)) (.slice a6 tags.length cap6) tags) := I6.out.carry fun k hk _ => Below.heap_setCell _ _ _ _ (by have := H5.out.1.under; show k ≠ w.heap.size; omega)
      have hb := H6.out.1.put 2 (.slice a6 len cap6)
      have hz := H6.out.2.1.far (Nat.succ_ne_self _) 2 (.slice a6 len cap6)
      have bl := H6.out.2.2.1.setCell (p := ⟨w.heap.size, 2, none⟩) (Nat.le_refl _) (.slice a6 len cap6)
      generalize w6.setCell ⟨w.heap.size, 2, none⟩ (.slice a6 len cap6) = w7 at hb hz bl I7 ⊢
      have H7 : Hid (Boxed w7 w.heap.size #[.int .i64 tt, .int .i64 frm, .slice a6 len cap6, .int .i64 src, .int .i64 dst, .int .i64 proto, .int .i64 sport, .int .i64 dport, .int .i64 mark, .int .i64 sum, .string body] 29 ∧ Boxed w7 (w.heap.size + 1) zeroFr 29 ∧ Below w.heap.size w w7 ∧ True) := ⟨hb, hz, bl, trivial⟩
      clear hb hz bl
      have c10 : w7.cell? ⟨w.heap.size, 10, none⟩ = some (.string body) := H7.out.1.cell 10 rfl
      have i10 := H7.out.1.ice 10
      go_upto_region 5 with (go_at_call 26; refine (implStrClone body (by omega) _).mono ?_; rintro e w8 ⟨rfl, b8⟩; clear c10 i10; have I8 : Hid (IRow wc.heap.size w8 (.slice a6 tags.length cap6) tags) := I7.out.carry fun k _ hk => b8.block k hk; have H8 : Hid (Boxed w8 w.heap.size #[.int .i64 tt, .int .i64 frm, .slice a6 len cap6, .int .i64 src, .int .i64 dst, .int .i64 proto, .int .i64 sport, .int .i64 dport, .int .i64 mark, .int .i64 sum, .string body] 29 ∧ Boxed w8 (w.heap.size + 1) zeroFr 29 ∧ Below w.heap.size w w8 ∧ True) := ⟨H7.out.1.below H7.out.1.under b8, H7.out.2.1.below H7.out.2.1.under b8, H7.out.2.2.1.trans (b8.mono H7.out.2.2.1.size), trivial⟩; clear b8; have c10 : w8.cell? ⟨w.heap.size, 10, none⟩ = some (.string body) := H8.out.1.cell 10 rfl; have i10 := H8.out.1.ice 10)
      clear c10 i10
      have I9 : Hid (IRow wc.heap.size (w8.setCell ⟨w.heap.size, 10, none⟩ (.string body)) (.slice a6 tags.length cap6) tags) := I8.out.carry fun k hk _ => Below.heap_setCell _ _ _ _ (by have := H5.out.1.under; show k ≠ w.heap.size; omega)
      have hb := H8.out.1.put 10 (.string body)
      have hz := H8.out.2.1.far (Nat.succ_ne_self _) 10 (.string body)
      have bl := H8.out.2.2.1.setCell (p := ⟨w.heap.size, 10, none⟩) (Nat.le_refl _) (.string body)
      generalize w8.setCell ⟨w.heap.size, 10, none⟩ (.string body) = w9 at hb hz bl I9 ⊢
      have H9 : Hid (Boxed w9 w.heap.size #[.int .i64 tt, .int .i64 frm, .slice a6 len cap6, .int .i64 src, .int .i64 dst, .int .i64 proto, .int .i64 sport, .int .i64 dport, .int .i64 mark, .int .i64 sum, .string body] 29 ∧ Boxed w9 (w.heap.size + 1) zeroFr 29 ∧ Below w.heap.size w w9 ∧ True) := ⟨hb, hz, bl, trivial⟩
      clear hb hz bl
      have c8 : w9.cell? ⟨w.heap.size, 8, none⟩ = some (.int .i64 mark) := H9.out.1.cell 8 rfl
      have i8 := H9.out.1.ice 8
      go_upto_region 6 with fail
      clear c8 i8
      have I10 : Hid (IRow wc.heap.size (w9.setCell ⟨w.heap.size, 8, none⟩ (.int .i64 m)) (.slice a6 tags.length cap6) tags) := I9.out.carry fun k hk _ => Below.heap_setCell _ _ _ _ (by have := H5.out.1.under; show k ≠ w.heap.size; omega)
      have hb := H9.out.1.put 8 (.int .i64 m)
      have hz := H9.out.2.1.far (Nat.succ_ne_self _) 8 (.int .i64 m)
      have bl := H9.out.2.2.1.setCell (p := ⟨w.heap.size, 8, none⟩) (Nat.le_refl _) (.int .i64 m)
      generalize w9.setCell ⟨w.heap.size, 8, none⟩ (.int .i64 m) = w10 at hb hz bl I10 ⊢
      have H10 : Hid (Boxed w10 w.heap.size #[.int .i64 tt, .int .i64 frm, .slice a6 len cap6, .int .i64 src, .int .i64 dst, .int .i64 proto, .int .i64 sport, .int .i64 dport, .int .i64 m, .int .i64 sum, .string body] 29 ∧ Boxed w10 (w.heap.size + 1) zeroFr 29 ∧ Below w.heap.size w w10 ∧ True) := ⟨hb, hz, bl, trivial⟩
      clear hb hz bl
      have hI : Hid (IntsAt w10 a6 tags) := I10.out.ints
      go_upto_region 7 with (first | (refine wpList_load_row rfl 29 (.tmp 2) rfl w.heap.size rfl _ _ _ _ H10.out.1 Try.underlying29 rfl (by kernel_rfl) ?_) | (go_at_call 13; refine (G2'.out _ _ _ (by first | exact ⟨rfl, Hm.out⟩ | exact Hm.out | exact ⟨trivial, Hm.out⟩) hI).mono ?_; rintro e w11 ⟨rfl, b11⟩; have I11 : Hid (IRow wc.heap.size w11 (.slice a6 tags.length cap6) tags) := I10.out.carry fun k _ hk => b11.block k hk; have H11 : Hid (Boxed w11 w.heap.size #[.int .i64 tt, .int .i64 frm, .slice a6 len cap6, .int .i64 src, .int .i64 dst, .int .i64 proto, .int .i64 sport, .int .i64 dport, .int .i64 m, .int .i64 sum, .string body] 29 ∧ Boxed w11 (w.heap.size + 1) zeroFr 29 ∧ Below w.heap.size w w11 ∧ True) := ⟨H10.out.1.below H10.out.1.under b11, H10.out.2.1.below H10.out.2.1.under b11, H10.out.2.2.1.trans (b11.mono H10.out.2.2.1.size), trivial⟩; clear b11; have c9 : w11.cell? ⟨w.heap.size, 9, none⟩ = some (.int .i64 sum) := H11.out.1.cell 9 rfl; have i9 := H11.out.1.ice 9))
      clear c9 i9
      have I12 : Hid (IRow wc.heap.size (w11.setCell ⟨w.heap.size, 9, none⟩ (.int .i64 s2)) (.slice a6 tags.length cap6) tags) := I11.out.carry fun k hk _ => Below.heap_setCell _ _ _ _ (by have := H5.out.1.under; show k ≠ w.heap.size; omega)
      have hb := H11.out.1.put 9 (.int .i64 s2)
      have hz := H11.out.2.1.far (Nat.succ_ne_self _) 9 (.int .i64 s2)
      have bl := H11.out.2.2.1.setCell (p := ⟨w.heap.size, 9, none⟩) (Nat.le_refl _) (.int .i64 s2)
      generalize w11.setCell ⟨w.heap.size, 9, none⟩ (.int .i64 s2) = w12 at hb hz bl I12 ⊢
      have H12 : Hid (Boxed w12 w.heap.size #[.int .i64 tt, .int .i64 frm, .slice a6 len cap6, .int .i64 src, .int .i64 dst, .int .i64 proto, .int .i64 sport, .int .i64 dport, .int .i64 m, .int .i64 s2, .string body] 29 ∧ Boxed w12 (w.heap.size + 1) zeroFr 29 ∧ Below w.heap.size w w12 ∧ True) := ⟨hb, hz, bl, trivial⟩
      clear hb hz bl
      go_wp2_with (first | (refine wpList_load_row rfl 29 (.tmp 2) rfl w.heap.size rfl _ _ _ _ H12.out.1 Try.underlying29 rfl (by kernel_rfl) ?_) | (refine wpList_store_row rfl 29 (.tmp 4) (.tmp 36) rfl (w.heap.size + 1) _ rfl rfl _ _ H12.out.2.1 (by kernel_rfl) rfl (frameOne _ _ _ _ _ _ _ _ _ _ _ _ _) ?_))
      refine bodyPost_ret (mEnd Try.results8 (setRow_heap w12 (w.heap.size + 1) _ #[.int .i64 tt, .int .i64 frm, .slice a6 len cap6, .int .i64 src, .int .i64 dst, .int .i64 proto, .int .i64 sport, .int .i64 dport, .int .i64 m, .int .i64 s2, .string body] _ _ H12.out.2.1) rfl rfl (by kernel_rfl)) rfl ⟨a6, cap6, ?_, ?_, below_setRow H12.out.2.2.1 (Nat.le_succ _) _⟩
      · rw [R1'.out (by first | exact trivial | exact rfl)]; obtain rfl := Hlen.out; rfl
      · rw [R1'.out (by first | exact trivial | exact rfl)]; exact (irow_other I12.out H12.out.2.1 _).mono (Nat.le_of_lt H5.out.1.under)
end Go.Proofs.Ytppgidcebhfjkaa

/-
  The walk of the exact law of Wider. By the verifier.
-/
import Derived.Test.YtcafobokdfglfaaRuWid
import Derived.Test.YtcafobokdfglfaaRuTo
namespace Go.Proofs.Ytcafobokdfglfaa
open Go.RowKit

set_option maxHeartbeats 800000 in
set_option maxRecDepth 100000 in
theorem fnExactWider_walk (a b : Ru) (w : World) :
    Calls Try.prog 7 #[a.val, b.val] w fun e w' => e = .returned (.bool true) ∧ Below w.heap.size w w' := by
  have TA := fun w => toRuB a w
  have TB := fun w => toRuB b w
  have C := fun w => specWider a b w
  have D := fun w => implWider a b w
  generalize widerV a b = ok at C D
  obtain ⟨ai, ap, asn, asb, adn, adb, apr, alo, ahi, acl⟩ := a
  obtain ⟨bi, bp, bsn, bsb, bdn, bdb, bpr, blo, bhi, bcl⟩ := b
  simp only [Ru.val] at TA TB C D ⊢
  have HX : Hid (Boxed ((w.alloc (.cells #[.int .i64 ai, .int .i64 ap, .int .i64 asn, .int .i64 asb, .int .i64 adn, .int .i64 adb, .int .i64 apr, .int .i64 alo, .int .i64 ahi, .int .i64 acl] 30)).alloc (.cells #[.int .i64 bi, .int .i64 bp, .int .i64 bsn, .int .i64 bsb, .int .i64 bdn, .int .i64 bdb, .int .i64 bpr, .int .i64 blo, .int .i64 bhi, .int .i64 bcl] 30)) w.heap.size #[.int .i64 ai, .int .i64 ap, .int .i64 asn, .int .i64 asb, .int .i64 adn, .int .i64 adb, .int .i64 apr, .int .i64 alo, .int .i64 ahi, .int .i64 acl] 30 ∧ Boxed ((w.alloc (.cells #[.int .i64 ai, .int .i64 ap, .int .i64 asn, .int .i64 asb, .int .i64 adn, .int .i64 adb, .int .i64 apr, .int .i64 alo, .int .i64 ahi, .int .i64 acl] 30)).alloc (.cells #[.int .i64 bi, .int .i64 bp, .int .i64 bsn, .int .i64 bsb, .int .i64 bdn, .int .i64 bdb, .int .i64 bpr, .int .i64 blo, .int .i64 bhi, .int .i64 bcl] 30)) (w.heap.size + 1) #[.int .i64 bi, .int .i64 bp, .int .i64 bsn, .int .i64 bsb, .int .i64 bdn, .int .i64 bdb, .int .i64 bpr, .int .i64 blo, .int .i64 bhi, .int .i64 bcl] 30 ∧ Below w.heap.size w ((w.alloc (.cells #[.int .i64 ai, .int .i64 ap, .int .i64 asn, .int .i64 asb, .int .i64 adn, .int .i64 adb, .int .i64 apr, .int .i64 alo, .int .i64 ahi, .int .i64 acl] 30)).alloc (.cells #[.int .i64 bi, .int .i64 bp, .int .i64 bsn, .int .i64 bsb, .int .i64 bdn, .int .i64 bdb, .int .i64 bpr, .int .i64 blo, .int .i64 bhi, .int .i64 bcl] 30))) :=
    ⟨(Boxed.new w _ _).more _, by have := Boxed.new (w.alloc (.cells #[.int .i64 ai, .int .i64 ap, .int .i64 asn, .int .i64 asb, .int .i64 adn, .int .i64 adb, .int .i64 apr, .int .i64 alo, .int .i64 ahi, .int .i64 acl] 30)) #[.int .i64 bi, .int .i64 bp, .int .i64 bsn, .int .i64 bsb, .int .i64 bdn, .int .i64 bdb, .int .i64 bpr, .int .i64 blo, .int .i64 bhi, .int .i64 bcl] 30; simpa using this, ((Below.refl _ w).alloc (Nat.le_refl _) _).alloc (by simp) _⟩
  have TA' : Hid _ := TA
  have TB' : Hid _ := TB
  have C' : Hid _ := C
  have D' : Hid _ := D
  clear TA TB C D
  go_enter Try.func7, Try.ntmps7
  go_wp2
  generalize (w.alloc (.cells #[.int .i64 ai, .int .i64 ap, .int .i64 asn, .int .i64 asb, .int .i64 adn, .int .i64 adb, .int .i64 apr, .int .i64 alo, .int .i64 ahi, .int .i64 acl] 30)).alloc (.cells #[.int .i64 bi, .int .i64 bp, .int .i64 bsn, .int .i64 bsb, .int .i64 bdn, .int .i64 bdb, .int .i64 bpr, .int .i64 blo, .int .i64 bhi, .int .i64 bcl] 30) = W at HX ⊢
  haveI : Nonempty (BelW W.heap.size W) := ⟨⟨W, Below.refl _ _⟩⟩
  have x0 : ∀ p : BelW W.heap.size W, p.w'.cell? ⟨w.heap.size, 0, none⟩ = some (.int .i64 ai) := fun p => (HX.out.1.below HX.out.1.under p.h).cell 0 rfl
  have x1 : ∀ p : BelW W.heap.size W, p.w'.cell? ⟨w.heap.size, 1, none⟩ = some (.int .i64 ap) := fun p => (HX.out.1.below HX.out.1.under p.h).cell 1 rfl
  have x2 : ∀ p : BelW W.heap.size W, p.w'.cell? ⟨w.heap.size, 2, none⟩ = some (.int .i64 asn) := fun p => (HX.out.1.below HX.out.1.under p.h).cell 2 rfl
  have x3 : ∀ p : BelW W.heap.size W, p.w'.cell? ⟨w.heap.size, 3, none⟩ = some (.int .i64 asb) := fun p => (HX.out.1.below HX.out.1.under p.h).cell 3 rfl
  have x4 : ∀ p : BelW W.heap.size W, p.w'.cell? ⟨w.heap.size, 4, none⟩ = some (.int .i64 adn) := fun p => (HX.out.1.below HX.out.1.under p.h).cell 4 rfl
  have x5 : ∀ p : BelW W.heap.size W, p.w'.cell? ⟨w.heap.size, 5, none⟩ = some (.int .i64 adb) := fun p => (HX.out.1.below HX.out.1.under p.h).cell 5 rfl
  have x6 : ∀ p : BelW W.heap.size W, p.w'.cell? ⟨w.heap.size, 6, none⟩ = some (.int .i64 apr) := fun p => (HX.out.1.below HX.out.1.under p.h).cell 6 rfl
  have x7 : ∀ p : BelW W.heap.size W, p.w'.cell? ⟨w.heap.size, 7, none⟩ = some (.int .i64 alo) := fun p => (HX.out.1.below HX.out.1.under p.h).cell 7 rfl
  have x8 : ∀ p : BelW W.heap.size W, p.w'.cell? ⟨w.heap.size, 8, none⟩ = some (.int .i64 ahi) := fun p => (HX.out.1.below HX.out.1.under p.h).cell 8 rfl
  have x9 : ∀ p : BelW W.heap.size W, p.w'.cell? ⟨w.heap.size, 9, none⟩ = some (.int .i64 acl) := fun p => (HX.out.1.below HX.out.1.under p.h).cell 9 rfl
  have y0 : ∀ p : BelW W.heap.size W, p.w'.cell? ⟨w.heap.size + 1, 0, none⟩ = some (.int .i64 bi) := fun p => (HX.out.2.1.below HX.out.2.1.under p.h).cell 0 rfl
  have y1 : ∀ p : BelW W.heap.size W, p.w'.cell? ⟨w.heap.size + 1, 1, none⟩ = some (.int .i64 bp) := fun p => (HX.out.2.1.below HX.out.2.1.under p.h).cell 1 rfl
  have y2 : ∀ p : BelW W.heap.size W, p.w'.cell? ⟨w.heap.size + 1, 2, none⟩ = some (.int .i64 bsn) := fun p => (HX.out.2.1.below HX.out.2.1.under p.h).cell 2 rfl
  have y3 : ∀ p : BelW W.heap.size W, p.w'.cell? ⟨w.heap.size + 1, 3, none⟩ = some (.int .i64 bsb) := fun p => (HX.out.2.1.below HX.out.2.1.under p.h).cell 3 rfl
  have y4 : ∀ p : BelW W.heap.size W, p.w'.cell? ⟨w.heap.size + 1, 4, none⟩ = some (.int .i64 bdn) := fun p => (HX.out.2.1.below HX.out.2.1.under p.h).cell 4 rfl
  have y5 : ∀ p : BelW W.heap.size W, p.w'.cell? ⟨w.heap.size + 1, 5, none⟩ = some (.int .i64 bdb) := fun p => (HX.out.2.1.below HX.out.2.1.under p.h).cell 5 rfl
  have y6 : ∀ p : BelW W.heap.size W, p.w'.cell? ⟨w.heap.size + 1, 6, none⟩ = some (.int .i64 bpr) := fun p => (HX.out.2.1.below HX.out.2.1.under p.h).cell 6 rfl
  have y7 : ∀ p : BelW W.heap.size W, p.w'.cell? ⟨w.heap.size + 1, 7, none⟩ = some (.int .i64 blo) := fun p => (HX.out.2.1.below HX.out.2.1.under p.h).cell 7 rfl
  have y8 : ∀ p : BelW W.heap.size W, p.w'.cell? ⟨w.heap.size + 1, 8, none⟩ = some (.int .i64 bhi) := fun p => (HX.out.2.1.below HX.out.2.1.under p.h).cell 8 rfl
  have y9 : ∀ p : BelW W.heap.size W, p.w'.cell? ⟨w.heap.size + 1, 9, none⟩ = some (.int .i64 bcl) := fun p => (HX.out.2.1.below HX.out.2.1.under p.h).cell 9 rfl
  refine region_below W.heap.size (by kernel_rfl) (by kernel_rfl) ?_
  repeat (go_big_quiet_step ((first | (go_at_call_of 16 (Value.int IntKind.i64 ai); refine quiet_below (Nat.le_refl _) (TA'.out _)) | (go_at_call_of 16 (Value.int IntKind.i64 bi); refine quiet_below (Nat.le_refl _) (TB'.out _)) | (go_at_call 28; refine quiet_below (Nat.le_refl _) (C'.out _)))))
  refine wpQuiet_nil ?_
  intro w2 hx
  have hq := BelW.out hx
  have H2 : Hid (Below w.heap.size w w2) := HX.out.2.2.trans (hq.mono HX.out.2.2.size)
  have Q2 : Hid (Below W.heap.size W w2) := hq
  clear hx hq
  go_wp2
  clear x0 x1 x2 x3 x4 x5 x6 x7 x8 x9 y0 y1 y2 y3 y4 y5 y6 y7 y8 y9
  haveI : Nonempty (BelW w2.heap.size w2) := ⟨⟨w2, Below.refl _ _⟩⟩
  have x0 : ∀ p : BelW w2.heap.size w2, p.w'.cell? ⟨w.heap.size, 0, none⟩ = some (.int .i64 ai) := fun p => (HX.out.1.below HX.out.1.under (Q2.out.trans (p.h.mono Q2.out.size))).cell 0 rfl
  have x1 : ∀ p : BelW w2.heap.size w2, p.w'.cell? ⟨w.heap.size, 1, none⟩ = some (.int .i64 ap) := fun p => (HX.out.1.below HX.out.1.under (Q2.out.trans (p.h.mono Q2.out.size))).cell 1 rfl
  have x2 : ∀ p : BelW w2.heap.size w2, p.w'.cell? ⟨w.heap.size, 2, none⟩ = some (.int .i64 asn) := fun p => (HX.out.1.below HX.out.1.under (Q2.out.trans (p.h.mono Q2.out.size))).cell 2 rfl
  have x3 : ∀ p : BelW w2.heap.size w2, p.w'.cell? ⟨w.heap.size, 3, none⟩ = some (.int .i64 asb) := fun p => (HX.out.1.below HX.out.1.under (Q2.out.trans (p.h.mono Q2.out.size))).cell 3 rfl
  have x4 : ∀ p : BelW w2.heap.size w2, p.w'.cell? ⟨w.heap.size, 4, none⟩ = some (.int .i64 adn) := fun p => (HX.out.1.below HX.out.1.under (Q2.out.trans (p.h.mono Q2.out.size))).cell 4 rfl
  have x5 : ∀ p : BelW w2.heap.size w2, p.w'.cell? ⟨w.heap.size, 5, none⟩ = some (.int .i64 adb) := fun p => (HX.out.1.below HX.out.1.under (Q2.out.trans (p.h.mono Q2.out.size))).cell 5 rfl
  have x6 : ∀ p : BelW w2.heap.size w2, p.w'.cell? ⟨w.heap.size, 6, none⟩ = some (.int .i64 apr) := fun p => (HX.out.1.below HX.out.1.under (Q2.out.trans (p.h.mono Q2.out.size))).cell 6 rfl
  have x7 : ∀ p : BelW w2.heap.size w2, p.w'.cell? ⟨w.heap.size, 7, none⟩ = some (.int .i64 alo) := fun p => (HX.out.1.below HX.out.1.under (Q2.out.trans (p.h.mono Q2.out.size))).cell 7 rfl
  have x8 : ∀ p : BelW w2.heap.size w2, p.w'.cell? ⟨w.heap.size, 8, none⟩ = some (.int .i64 ahi) := fun p => (HX.out.1.below HX.out.1.under (Q2.out.trans (p.h.mono Q2.out.size))).cell 8 rfl
  have x9 : ∀ p : BelW w2.heap.size w2, p.w'.cell? ⟨w.heap.size, 9, none⟩ = some (.int .i64 acl) := fun p => (HX.out.1.below HX.out.1.under (Q2.out.trans (p.h.mono Q2.out.size))).cell 9 rfl
  have y0 : ∀ p : BelW w2.heap.size w2, p.w'.cell? ⟨w.heap.size + 1, 0, none⟩ = some (.int .i64 bi) := fun p => (HX.out.2.1.below HX.out.2.1.under (Q2.out.trans (p.h.mono Q2.out.size))).cell 0 rfl
  have y1 : ∀ p : BelW w2.heap.size w2, p.w'.cell? ⟨w.heap.size + 1, 1, none⟩ = some (.int .i64 bp) := fun p => (HX.out.2.1.below HX.out.2.1.under (Q2.out.trans (p.h.mono Q2.out.size))).cell 1 rfl
  have y2 : ∀ p : BelW w2.heap.size w2, p.w'.cell? ⟨w.heap.size + 1, 2, none⟩ = some (.int .i64 bsn) := fun p => (HX.out.2.1.below HX.out.2.1.under (Q2.out.trans (p.h.mono Q2.out.size))).cell 2 rfl
  have y3 : ∀ p : BelW w2.heap.size w2, p.w'.cell? ⟨w.heap.size + 1, 3, none⟩ = some (.int .i64 bsb) := fun p => (HX.out.2.1.below HX.out.2.1.under (Q2.out.trans (p.h.mono Q2.out.size))).cell 3 rfl
  have y4 : ∀ p : BelW w2.heap.size w2, p.w'.cell? ⟨w.heap.size + 1, 4, none⟩ = some (.int .i64 bdn) := fun p => (HX.out.2.1.below HX.out.2.1.under (Q2.out.trans (p.h.mono Q2.out.size))).cell 4 rfl
  have y5 : ∀ p : BelW w2.heap.size w2, p.w'.cell? ⟨w.heap.size + 1, 5, none⟩ = some (.int .i64 bdb) := fun p => (HX.out.2.1.below HX.out.2.1.under (Q2.out.trans (p.h.mono Q2.out.size))).cell 5 rfl
  have y6 : ∀ p : BelW w2.heap.size w2, p.w'.cell? ⟨w.heap.size + 1, 6, none⟩ = some (.int .i64 bpr) := fun p => (HX.out.2.1.below HX.out.2.1.under (Q2.out.trans (p.h.mono Q2.out.size))).cell 6 rfl
  have y7 : ∀ p : BelW w2.heap.size w2, p.w'.cell? ⟨w.heap.size + 1, 7, none⟩ = some (.int .i64 blo) := fun p => (HX.out.2.1.below HX.out.2.1.under (Q2.out.trans (p.h.mono Q2.out.size))).cell 7 rfl
  have y8 : ∀ p : BelW w2.heap.size w2, p.w'.cell? ⟨w.heap.size + 1, 8, none⟩ = some (.int .i64 bhi) := fun p => (HX.out.2.1.below HX.out.2.1.under (Q2.out.trans (p.h.mono Q2.out.size))).cell 8 rfl
  have y9 : ∀ p : BelW w2.heap.size w2, p.w'.cell? ⟨w.heap.size + 1, 9, none⟩ = some (.int .i64 bcl) := fun p => (HX.out.2.1.below HX.out.2.1.under (Q2.out.trans (p.h.mono Q2.out.size))).cell 9 rfl
  refine region_below w2.heap.size (by kernel_rfl) (by kernel_rfl) ?_
  repeat (go_big_quiet_step ((first | (go_at_call_of 16 (Value.int IntKind.i64 ai); refine quiet_below (Nat.le_refl _) (TA'.out _)) | (go_at_call_of 16 (Value.int IntKind.i64 bi); refine quiet_below (Nat.le_refl _) (TB'.out _)) | (go_at_call 29; refine quiet_below (Nat.le_refl _) (D'.out _)))))
  refine wpQuiet_nil ?_
  intro w3 hx
  have hq := BelW.out hx
  have H3 : Hid (Below w.heap.size w w3) := H2.out.trans (hq.mono H2.out.size)
  clear hx hq x0 x1 x2 x3 x4 x5 x6 x7 x8 x9 y0 y1 y2 y3 y4 y5 y6 y7 y8 y9
  cases ok
  all_goals (
    go_wp2
    go_ret
    exact ⟨rfl, H3.out⟩)
end Go.Proofs.Ytcafobokdfglfaa

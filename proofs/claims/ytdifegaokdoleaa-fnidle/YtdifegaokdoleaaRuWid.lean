/-
  The walk of the program's Wider. By the verifier.
-/
import Derived.Test.YtdifegaokdoleaaRuMat
namespace Go.Proofs.Ytdifegaokdoleaa
open Go.RowKit

set_option maxHeartbeats 6400000 in
set_option maxRecDepth 100000 in
theorem implWider (a b : Ru) (w : World) :
    Calls Try.prog 23 #[a.val, b.val] w fun e w' => e = .returned (.bool (widerV a b)) ∧ Below w.heap.size w w' := by
  have Hok : Hid (widerV a b = ((a.ok && b.ok) && a.wide b)) := by show widerV a b = _; unfold widerV; rw [Bool.and_assoc]
  have A1 := fun (w : World) (x : Option Addr) (cap : Nat) h => implEach x cap [a, b] w (by simp) h
  have A4 := fun (h : (a.ok && b.ok) = true) (w : World) => implCov a b (Bool.and_eq_true_iff.1 h).1 (Ru.ok_inn (Bool.and_eq_true_iff.1 h).2) w
  have Hc : Hid ((a.ok && b.ok) = true → a.cov b = a.wide b) := fun h => Ru.cov_wide (Bool.and_eq_true_iff.1 h).1 b
  have N1 := fun (w : World) (B : Nat) (hB : B = w.heap.size) => rus_new w [a, b] (a.cells ++ b.cells).toArray B hB (by rw [rucells_cons, rucells_cons, rucells_nil]; rfl)
  simp only [List.all_cons, List.all_nil, Bool.and_true, List.length_cons, List.length_nil] at A1
  generalize a.cov b = cv at A4 Hc
  generalize a.wide b = hv at Hc Hok
  generalize widerV a b = ok at Hok ⊢
  generalize (a.ok && b.ok) = b1 at A1 A4 Hc Hok
  obtain ⟨ai, ap, asn, asb, adn, adb, apr, alo, ahi, acl⟩ := a
  obtain ⟨bi, bp, bsn, bsb, bdn, bdb, bpr, blo, bhi, bcl⟩ := b
  simp only [Ru.val, Ru.cells, List.cons_append, List.nil_append] at A1 A4 N1 ⊢
  have A1' : Hid _ := A1
  have N1' : Hid _ := N1
  have hbel : Hid (∀ (x y z : Obj) (w1 : World), Below (((w.alloc x).alloc y).alloc z).heap.size (((w.alloc x).alloc y).alloc z) w1 → Below w.heap.size w w1) := fun x y z w1 h => ((((Below.refl _ w).alloc (Nat.le_refl _) _).alloc (by simp) _).alloc (by simp; omega) _).trans (h.mono (by simp; omega))
  have HX : Hid (∀ (z : Obj) (w1 : World), Below (((w.alloc (.cells #[.int .i64 ai, .int .i64 ap, .int .i64 asn, .int .i64 asb, .int .i64 adn, .int .i64 adb, .int .i64 apr, .int .i64 alo, .int .i64 ahi, .int .i64 acl] 32)).alloc (.cells #[.int .i64 bi, .int .i64 bp, .int .i64 bsn, .int .i64 bsb, .int .i64 bdn, .int .i64 bdb, .int .i64 bpr, .int .i64 blo, .int .i64 bhi, .int .i64 bcl] 32)).alloc z).heap.size (((w.alloc (.cells #[.int .i64 ai, .int .i64 ap, .int .i64 asn, .int .i64 asb, .int .i64 adn, .int .i64 adb, .int .i64 apr, .int .i64 alo, .int .i64 ahi, .int .i64 acl] 32)).alloc (.cells #[.int .i64 bi, .int .i64 bp, .int .i64 bsn, .int .i64 bsb, .int .i64 bdn, .int .i64 bdb, .int .i64 bpr, .int .i64 blo, .int .i64 bhi, .int .i64 bcl] 32)).alloc z) w1 → Boxed w1 w.heap.size #[.int .i64 ai, .int .i64 ap, .int .i64 asn, .int .i64 asb, .int .i64 adn, .int .i64 adb, .int .i64 apr, .int .i64 alo, .int .i64 ahi, .int .i64 acl] 32 ∧ Boxed w1 (w.heap.size + 1) #[.int .i64 bi, .int .i64 bp, .int .i64 bsn, .int .i64 bsb, .int .i64 bdn, .int .i64 bdb, .int .i64 bpr, .int .i64 blo, .int .i64 bhi, .int .i64 bcl] 32) := fun z w1 h => ⟨(((Boxed.new w _ _).more _).more _).below (by simp; omega) h, by have := ((Boxed.new (w.alloc (.cells #[.int .i64 ai, .int .i64 ap, .int .i64 asn, .int .i64 asb, .int .i64 adn, .int .i64 adb, .int .i64 apr, .int .i64 alo, .int .i64 ahi, .int .i64 acl] 32)) #[.int .i64 bi, .int .i64 bp, .int .i64 bsn, .int .i64 bsb, .int .i64 bdn, .int .i64 bdb, .int .i64 bpr, .int .i64 blo, .int .i64 bhi, .int .i64 bcl] 32).more z).below (by simp) h; simpa using this⟩
  clear A1 N1
  go_enter Try.func23, Try.ntmps23
  go_wp2_with fail
  refine (A1'.out _ _ _ (N1'.out _ _ ?_)).mono ?_
  · simp
  rintro e w1 ⟨rfl, q⟩
  have X1 : Hid (Below w.heap.size w w1) := hbel.out _ _ _ _ q
  obtain ⟨z1, z2⟩ := HX.out _ _ q
  have x0 : w1.cell? ⟨w.heap.size, 0, none⟩ = some (.int .i64 ai) := z1.cell 0 rfl
  have x1 : w1.cell? ⟨w.heap.size, 1, none⟩ = some (.int .i64 ap) := z1.cell 1 rfl
  have x2 : w1.cell? ⟨w.heap.size, 2, none⟩ = some (.int .i64 asn) := z1.cell 2 rfl
  have x3 : w1.cell? ⟨w.heap.size, 3, none⟩ = some (.int .i64 asb) := z1.cell 3 rfl
  have x4 : w1.cell? ⟨w.heap.size, 4, none⟩ = some (.int .i64 adn) := z1.cell 4 rfl
  have x5 : w1.cell? ⟨w.heap.size, 5, none⟩ = some (.int .i64 adb) := z1.cell 5 rfl
  have x6 : w1.cell? ⟨w.heap.size, 6, none⟩ = some (.int .i64 apr) := z1.cell 6 rfl
  have x7 : w1.cell? ⟨w.heap.size, 7, none⟩ = some (.int .i64 alo) := z1.cell 7 rfl
  have x8 : w1.cell? ⟨w.heap.size, 8, none⟩ = some (.int .i64 ahi) := z1.cell 8 rfl
  have x9 : w1.cell? ⟨w.heap.size, 9, none⟩ = some (.int .i64 acl) := z1.cell 9 rfl
  have y0 : w1.cell? ⟨w.heap.size + 1, 0, none⟩ = some (.int .i64 bi) := z2.cell 0 rfl
  have y1 : w1.cell? ⟨w.heap.size + 1, 1, none⟩ = some (.int .i64 bp) := z2.cell 1 rfl
  have y2 : w1.cell? ⟨w.heap.size + 1, 2, none⟩ = some (.int .i64 bsn) := z2.cell 2 rfl
  have y3 : w1.cell? ⟨w.heap.size + 1, 3, none⟩ = some (.int .i64 bsb) := z2.cell 3 rfl
  have y4 : w1.cell? ⟨w.heap.size + 1, 4, none⟩ = some (.int .i64 bdn) := z2.cell 4 rfl
  have y5 : w1.cell? ⟨w.heap.size + 1, 5, none⟩ = some (.int .i64 bdb) := z2.cell 5 rfl
  have y6 : w1.cell? ⟨w.heap.size + 1, 6, none⟩ = some (.int .i64 bpr) := z2.cell 6 rfl
  have y7 : w1.cell? ⟨w.heap.size + 1, 7, none⟩ = some (.int .i64 blo) := z2.cell 7 rfl
  have y8 : w1.cell? ⟨w.heap.size + 1, 8, none⟩ = some (.int .i64 bhi) := z2.cell 8 rfl
  have y9 : w1.cell? ⟨w.heap.size + 1, 9, none⟩ = some (.int .i64 bcl) := z2.cell 9 rfl
  clear q z1 z2
  cases b1
  · go_wp2
    go_ret
    exact ⟨ret_bool (by rw [Hok.out]; rfl), X1.out⟩
  · have A5 := fun w => A4 rfl w
    have A5' : Hid _ := A5
    have Hcv : Hid (cv = hv) := Hc.out rfl
    clear A5 A4 Hc
    go_wp2_with fail
    refine (A5'.out _).mono ?_
    rintro e w2 ⟨rfl, q⟩
    have X2 : Hid (Below w.heap.size w w2) := X1.out.trans (q.mono X1.out.size)
    clear q
    go_wp2
    go_ret
    exact ⟨ret_bool (by rw [Hok.out, Hcv.out]; rfl), X2.out⟩
end Go.Proofs.Ytdifegaokdoleaa

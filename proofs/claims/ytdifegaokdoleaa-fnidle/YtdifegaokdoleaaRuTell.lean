/-
  The walks of the model's Matches, Wider and ClassOf. By the verifier.
-/
import Derived.Test.YtdifegaokdoleaaRuClass
namespace Go.Proofs.Ytdifegaokdoleaa
open Go.RowKit

def matchV (r : Ru) (f : Fr) : Bool := r.ok && (f.ok && r.hits f)
def widerV (a b : Ru) : Bool := a.ok && (b.ok && a.wide b)

set_option maxHeartbeats 3200000 in
set_option maxRecDepth 100000 in
theorem specWider (a b : Ru) (w : World) :
    Calls Try.prog 25 #[a.val, b.val] w fun e w' => e = .returned (.bool (widerV a b)) ∧ Below w.heap.size w w' := by
  have Hv : Hid (widerV a b = (a.ok && (b.ok && a.wide b))) := rfl
  have A1 := fun w => specRule a w
  have A2 := fun w => specRule b w
  have A3 := fun h1 h2 w => specWide a b h1 h2 w
  generalize a.ok = o1 at A1 A3 Hv
  generalize b.ok = o2 at A2 A3 Hv
  generalize a.wide b = o3 at A3 Hv
  generalize widerV a b = res at Hv ⊢
  obtain ⟨ai, ap, asn, asb, adn, adb, apr, alo, ahi, acl⟩ := a
  obtain ⟨bi, bp, bsn, bsb, bdn, bdb, bpr, blo, bhi, bcl⟩ := b
  simp only [Ru.val, Ru.cells] at A1 A2 A3 ⊢
  have A1' : Hid _ := A1
  have A2' : Hid _ := A2
  have A3' : Hid _ := A3
  clear A1 A2 A3
  go_enter Try.func25, Try.ntmps25
  go_wp2_with fail
  refine (A1'.out _).mono ?_
  rintro e w' ⟨rfl, rfl⟩
  cases o1
  · go_wp2
    go_ret
    exact ⟨ret_bool (by rw [Hv.out]; rfl), (((Below.refl _ w).alloc (Nat.le_refl _) _).alloc (by simp) _).alloc (by simp; omega) _⟩
  go_wp2_with fail
  refine (A2'.out _).mono ?_
  rintro e w' ⟨rfl, rfl⟩
  cases o2
  · go_wp2
    go_ret
    exact ⟨ret_bool (by rw [Hv.out]; rfl), ((((Below.refl _ w).alloc (Nat.le_refl _) _).alloc (by simp) _).alloc (by simp; omega) _).alloc (by simp; omega) _⟩
  go_wp2_with fail
  refine (A3'.out (by first | exact trivial | exact rfl) (by first | exact trivial | exact rfl) _).mono ?_
  rintro e w' ⟨rfl, rfl⟩
  go_wp2
  go_ret
  exact ⟨ret_bool (by rw [Hv.out]; rfl), ((((((Below.refl _ w).alloc (Nat.le_refl _) _).alloc (by simp) _).alloc (by simp; omega) _).alloc (by simp; omega) _).alloc (by simp; omega) _).alloc (by simp; omega) _⟩

set_option maxHeartbeats 3200000 in
set_option maxRecDepth 100000 in
theorem specMatches (r : Ru) (f : Fr) (a : Option Addr) (c : Nat) (w : World) (hT : f.tags.length ≤ 1048576) (hc : Hid (IntsAt w a f.tags)) :
    Calls Try.prog 12 #[r.val, f.val a c] w fun e w' => e = .returned (.bool (matchV r f)) ∧ Below w.heap.size w w' := by
  have Hv : Hid (matchV r f = (r.ok && (f.ok && r.hits f))) := rfl
  have A1 := fun w => specRule r w
  have A2 := fun w h => specFrameOk f a c w hT h
  have A3 := fun h1 h2 w => specHits r f a c h1 h2 w
  generalize r.ok = o1 at A1 A3 Hv
  generalize f.ok = o2 at A2 A3 Hv
  generalize r.hits f = o3 at A3 Hv
  generalize matchV r f = res at Hv ⊢
  obtain ⟨ai, ap, asn, asb, adn, adb, apr, alo, ahi, acl⟩ := r
  obtain ⟨f0, g1, ft, fs, fd, fp, sp, dp, mk, sm, fb⟩ := f
  simp only [Ru.val, Ru.cells, Fr.val] at A1 A2 A3 hc hT ⊢
  generalize ft.length = nf at A2 A3 ⊢
  have A1' : Hid _ := A1
  have A2' : Hid _ := A2
  have A3' : Hid _ := A3
  clear A1 A2 A3 hT
  go_enter Try.func12, Try.ntmps12
  go_wp2_with fail
  refine (A1'.out _).mono ?_
  rintro e w' ⟨rfl, rfl⟩
  have B3 : Hid (∀ x y z : Obj, Below w.heap.size w (((w.alloc x).alloc y).alloc z)) := fun x y z => (((Below.refl _ w).alloc (Nat.le_refl _) _).alloc (by simp) _).alloc (by simp; omega) _
  cases o1
  · go_wp2
    go_ret
    exact ⟨ret_bool (by rw [Hv.out]; rfl), B3.out _ _ _⟩
  have X1 := (Boxed.new w #[.int .i64 ai, .int .i64 ap, .int .i64 asn, .int .i64 asb, .int .i64 adn, .int .i64 adb, .int .i64 apr, .int .i64 alo, .int .i64 ahi, .int .i64 acl] 32)
  have X2 := Boxed.new (w.alloc (.cells #[.int .i64 ai, .int .i64 ap, .int .i64 asn, .int .i64 asb, .int .i64 adn, .int .i64 adb, .int .i64 apr, .int .i64 alo, .int .i64 ahi, .int .i64 acl] 32)) #[.int .i64 f0, .int .i64 g1, .slice a nf c, .int .i64 fs, .int .i64 fd, .int .i64 fp, .int .i64 sp, .int .i64 dp, .int .i64 mk, .int .i64 sm, .string fb] 27
  rw [World.size_alloc] at X2
  have HX : Hid (_ ∧ _) := ⟨(X1.more (.cells #[.int .i64 f0, .int .i64 g1, .slice a nf c, .int .i64 fs, .int .i64 fd, .int .i64 fp, .int .i64 sp, .int .i64 dp, .int .i64 mk, .int .i64 sm, .string fb] 27)).more (.cells #[.int .i64 ai, .int .i64 ap, .int .i64 asn, .int .i64 asb, .int .i64 adn, .int .i64 adb, .int .i64 apr, .int .i64 alo, .int .i64 ahi, .int .i64 acl] 32), X2.more (.cells #[.int .i64 ai, .int .i64 ap, .int .i64 asn, .int .i64 asb, .int .i64 adn, .int .i64 adb, .int .i64 apr, .int .i64 alo, .int .i64 ahi, .int .i64 acl] 32)⟩
  clear X1 X2
  go_wp2_with fail
  refine (A2'.out _ (hc.out.below (B3.out _ _ _))).mono ?_
  rintro e w4 ⟨rfl, b4⟩
  have H4 : Hid (Boxed w4 w.heap.size #[.int .i64 ai, .int .i64 ap, .int .i64 asn, .int .i64 asb, .int .i64 adn, .int .i64 adb, .int .i64 apr, .int .i64 alo, .int .i64 ahi, .int .i64 acl] 32 ∧ Boxed w4 (w.heap.size + 1) #[.int .i64 f0, .int .i64 g1, .slice a nf c, .int .i64 fs, .int .i64 fd, .int .i64 fp, .int .i64 sp, .int .i64 dp, .int .i64 mk, .int .i64 sm, .string fb] 27 ∧ Below w.heap.size w w4) :=
    ⟨HX.out.1.below HX.out.1.under b4, HX.out.2.below HX.out.2.under b4, (B3.out _ _ _).trans (b4.mono (B3.out _ _ _).size)⟩
  clear b4 HX
  cases o2
  · go_wp2
    go_ret
    exact ⟨ret_bool (by rw [Hv.out]; rfl), H4.out.2.2⟩
  have c0 : w4.cell? ⟨w.heap.size, 0, none⟩ = some (.int .i64 ai) := H4.out.1.cell 0 rfl
  have c1 : w4.cell? ⟨w.heap.size, 1, none⟩ = some (.int .i64 ap) := H4.out.1.cell 1 rfl
  have c2 : w4.cell? ⟨w.heap.size, 2, none⟩ = some (.int .i64 asn) := H4.out.1.cell 2 rfl
  have c3 : w4.cell? ⟨w.heap.size, 3, none⟩ = some (.int .i64 asb) := H4.out.1.cell 3 rfl
  have c4 : w4.cell? ⟨w.heap.size, 4, none⟩ = some (.int .i64 adn) := H4.out.1.cell 4 rfl
  have c5 : w4.cell? ⟨w.heap.size, 5, none⟩ = some (.int .i64 adb) := H4.out.1.cell 5 rfl
  have c6 : w4.cell? ⟨w.heap.size, 6, none⟩ = some (.int .i64 apr) := H4.out.1.cell 6 rfl
  have c7 : w4.cell? ⟨w.heap.size, 7, none⟩ = some (.int .i64 alo) := H4.out.1.cell 7 rfl
  have c8 : w4.cell? ⟨w.heap.size, 8, none⟩ = some (.int .i64 ahi) := H4.out.1.cell 8 rfl
  have c9 : w4.cell? ⟨w.heap.size, 9, none⟩ = some (.int .i64 acl) := H4.out.1.cell 9 rfl
  have d0 : w4.cell? ⟨w.heap.size + 1, 0, none⟩ = some (.int .i64 f0) := H4.out.2.1.cell 0 rfl
  have d1 : w4.cell? ⟨w.heap.size + 1, 1, none⟩ = some (.int .i64 g1) := H4.out.2.1.cell 1 rfl
  have d2 : w4.cell? ⟨w.heap.size + 1, 2, none⟩ = some (.slice a nf c) := H4.out.2.1.cell 2 rfl
  have d3 : w4.cell? ⟨w.heap.size + 1, 3, none⟩ = some (.int .i64 fs) := H4.out.2.1.cell 3 rfl
  have d4 : w4.cell? ⟨w.heap.size + 1, 4, none⟩ = some (.int .i64 fd) := H4.out.2.1.cell 4 rfl
  have d5 : w4.cell? ⟨w.heap.size + 1, 5, none⟩ = some (.int .i64 fp) := H4.out.2.1.cell 5 rfl
  have d6 : w4.cell? ⟨w.heap.size + 1, 6, none⟩ = some (.int .i64 sp) := H4.out.2.1.cell 6 rfl
  have d7 : w4.cell? ⟨w.heap.size + 1, 7, none⟩ = some (.int .i64 dp) := H4.out.2.1.cell 7 rfl
  have d8 : w4.cell? ⟨w.heap.size + 1, 8, none⟩ = some (.int .i64 mk) := H4.out.2.1.cell 8 rfl
  have d9 : w4.cell? ⟨w.heap.size + 1, 9, none⟩ = some (.int .i64 sm) := H4.out.2.1.cell 9 rfl
  have d10 : w4.cell? ⟨w.heap.size + 1, 10, none⟩ = some (.string fb) := H4.out.2.1.cell 10 rfl
  go_wp2_with fail
  refine (A3'.out (by first | exact trivial | exact rfl) (by first | exact trivial | exact rfl) _).mono ?_
  rintro e w5 ⟨rfl, b5⟩
  have H5 : Hid (Below w.heap.size w w5) := H4.out.2.2.trans (b5.mono H4.out.2.2.size)
  clear b5 H4 c0 c1 c2 c3 c4 c5 c6 c7 c8 c9 d0 d1 d2 d3 d4 d5 d6 d7 d8 d9 d10
  go_wp2
  go_ret
  exact ⟨ret_bool (by rw [Hv.out]; rfl), H5.out⟩
end Go.Proofs.Ytdifegaokdoleaa

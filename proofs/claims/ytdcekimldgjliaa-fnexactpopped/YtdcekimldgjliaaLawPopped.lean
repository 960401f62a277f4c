/-
  The walk of the exact law of Popped. By the verifier, by program.
-/
import Derived.Test.YtdcekimldgjliaaRwPopI
import Derived.Test.YtdcekimldgjliaaRwPopS
import Derived.Test.YtdcekimldgjliaaRwVar
import Derived.Test.YtdcekimldgjliaaStepRow
import Derived.Test.YtdcekimldgjliaaItTo
import Derived.Test.YtdcekimldgjliaaItEq
import Derived.Deep.RegionLaw
namespace Go.Proofs.Ytdcekimldgjliaa
open Go.RowKit

/-- What came in, boxed. -/
def PoS (w : World) (f : Int) (a : Option Addr) (n c : Nat) (W : World) : Prop := Boxed W w.heap.size #[.int .i64 f, .slice a n c] 24 ∧ Below w.heap.size w W
theorem PoS.below {w : World} {f : Int} {a : Option Addr} {n c : Nat} {W W' : World} (h : PoS w f a n c W) (g : Below W.heap.size W W') : PoS w f a n c W' :=
  ⟨h.1.below h.1.under g, h.2.trans (g.mono h.2.size)⟩
theorem PoS.span {w : World} {f : Int} {a : Option Addr} {n c : Nat} {W W' : World} {b t : Nat} (h : PoS w f a n c W) (g : Span b t W W') (hb : w.heap.size + 1 ≤ b) : PoS w f a n c W' := by
  have u1 := h.1.under
  exact ⟨(g.block _ u1 (by omega)).trans h.1, h.2.trans (g.below (by omega) (by omega))⟩
theorem PoS.lt {w : World} {f : Int} {a : Option Addr} {n c : Nat} {W : World} (h : PoS w f a n c W) : w.heap.size + 1 ≤ W.heap.size := h.1.under
theorem PoS.bel {w : World} {f : Int} {a : Option Addr} {n c : Nat} {W : World} (h : PoS w f a n c W) : Below w.heap.size w W := h.2
/-- What lies behind both calls. -/
structure PoT (w : World) (f : Int) (a : Option Addr) (n c : Nat) (X g : Rw) (xf : Int) (xn b0 t0 B0 : Nat) (p0 : Option Addr) (q0 : Nat) (b2 t2 B2 : Nat) (p2 : Option Addr) (q2 : Nat) (C0 C2 : Nat) (j0 j1 j2 : Int) (W : World) : Prop where
  bs : PoS w f a n c W
  h0 : RwH (w.heap.size + 1) b0 t0 B0 #[.int .i64 xf, .slice p0 xn q0] X W
  hg : RwH (w.heap.size + 1) b2 t2 B2 #[.int .i64 xf, .slice p2 xn q2] g W
  d1 : t0 ≤ b2
  d2 : B0 < b2
  k0 : Boxed W C0 #[.int .i64 j0, .int .i64 j1, .int .i64 j2] 37
  k2 : Boxed W C2 #[.int .i64 j0, .int .i64 j1, .int .i64 j2] 37
  e0 : C0 < b2
  e2 : C2 < b2 ∨ t2 ≤ C2
section
variable {w : World} {f : Int} {a : Option Addr} {n c : Nat} {X g g' : Rw} {xf : Int} {xn b0 t0 B0 : Nat} {p0 : Option Addr} {q0 : Nat} {b2 t2 B2 : Nat} {p2 : Option Addr} {q2 : Nat} {C0 C2 : Nat} {j0 j1 j2 : Int} {W W' : World} {b1 t1 : Nat}
theorem PoT.below (h : PoT w f a n c X g xf xn b0 t0 B0 p0 q0 b2 t2 B2 p2 q2 C0 C2 j0 j1 j2 W) (q : Below W.heap.size W W') : PoT w f a n c X g xf xn b0 t0 B0 p0 q0 b2 t2 B2 p2 q2 C0 C2 j0 j1 j2 W' := ⟨h.bs.below q, h.h0.below q, h.hg.below q, h.d1, h.d2, h.k0.below h.k0.under q, h.k2.below h.k2.under q, h.e0, h.e2⟩
theorem PoT.other (h : PoT w f a n c X g xf xn b0 t0 B0 p0 q0 b2 t2 B2 p2 q2 C0 C2 j0 j1 j2 W) (q : Span b1 t1 W W') (s1 : w.heap.size + 1 ≤ b1) (f1 : t0 ≤ b1) (f2 : B0 < b1) (f3 : t1 ≤ b2) (f4 : t1 ≤ B2) (c0 : C0 < b1) (c2 : t1 ≤ C2) : PoT w f a n c X g xf xn b0 t0 B0 p0 q0 b2 t2 B2 p2 q2 C0 C2 j0 j1 j2 W' := ⟨h.bs.span q s1, h.h0.span q (.inl f1) (.inl f2), h.hg.span q (.inr f3) (.inr f4), h.d1, h.d2, (q.block _ h.k0.under (.inl c0)).trans h.k0, (q.block _ h.k2.under (.inr c2)).trans h.k2, h.e0, h.e2⟩
theorem PoT.mark (h : PoT w f a n c X g xf xn b0 t0 B0 p0 q0 b2 t2 B2 p2 q2 C0 C2 j0 j1 j2 W) (q : Span b2 t2 W W') (m : RwIn b2 t2 W' (.agg #[.int .i64 xf, .slice p2 xn q2]) g') : PoT w f a n c X g' xf xn b0 t0 B0 p0 q0 b2 t2 B2 p2 q2 C0 C2 j0 j1 j2 W' := ⟨h.bs.span q h.hg.sb, h.h0.span q (.inl h.d1) (.inl h.d2), h.hg.marked q m, h.d1, h.d2, (q.block _ h.k0.under (.inl h.e0)).trans h.k0, (q.block _ h.k2.under h.e2).trans h.k2, h.e0, h.e2⟩
end

theorem big_popped {r : Rw} {row : Int} (h : r.big ≤ 1048576) : (r.popped row).big ≤ 1048576 := by
  by_cases hok : r.ok = true
  · have hr := Rw.ok_iff.1 hok
    unfold Rw.popped
    rw [if_pos hok]
    by_cases hm : r.mayPop row = true
    · rw [if_pos hm]
      have h1 : ((r.lists.set row.toNat ((izAt r.lists row.toNat).drop 1)).flatten).length ≤ r.all.length := by
        by_cases hj : row.toNat < r.lists.length
        · have e : r.lists = r.lists.take row.toNat ++ izAt r.lists row.toNat :: r.lists.drop (row.toNat + 1) := by
            rw [izAt_lt hj, ← List.drop_eq_getElem_cons hj, List.take_append_drop]
          have e2 : r.lists.set row.toNat ((izAt r.lists row.toNat).drop 1) = r.lists.take row.toNat ++ ((izAt r.lists row.toNat).drop 1) :: r.lists.drop (row.toNat + 1) := List.set_eq_take_append_cons_drop.trans (if_pos hj)
          rw [e2]
          unfold Rw.all
          conv => rhs; rw [e]
          simp only [List.flatten_append, List.flatten_cons, List.length_append, List.length_drop]
          omega
        · rw [List.set_eq_of_length_le (by omega)]
          show r.all.length ≤ _
          omega
      unfold Rw.big
      have h2 := all_length ⟨r.most, r.lists.set row.toNat ((izAt r.lists row.toNat).drop 1)⟩
      unfold Rw.all at h2
      simp only at h2 ⊢
      rw [← h2, List.length_set]
      have h3 := hr.2.2.2.2
      have h4 := hr.1.2
      have h5 := hr.2.1.2
      omega
    · rw [if_neg hm]; exact h
  · unfold Rw.popped
    rw [if_neg hok]
    simp [Rw.big, izSum]

set_option maxHeartbeats 12800000 in
set_option maxRecDepth 100000 in
theorem fnExactPopped_walk (r : Rw) (a : Option Addr) (c : Nat) (row : Int) (w : World) (hl : (r.lists.length : Int) ≤ 9223372036854775807) (hin : Hid (∀ k, k < r.lists.length → ((izAt r.lists k).length : Int) ≤ 9223372036854775807)) (h : Hid (IzAt w a r.lists)) :
    Calls Try.prog 5 #[r.val a c, .int .i64 row] w fun e w' => e = .returned (.bool true) ∧ Below w.heap.size w w' := by
  have S := fun w h => szRws 1048576 (by omega) (by omega) r a c w hl hin h
  by_cases hbig : (1048576 : Int) - (r.big : Nat) < 0
  · rw [if_pos hbig] at S
    obtain ⟨f, ls⟩ := r
    simp only [Rw.val] at S h ⊢
    generalize ls.length = n at S hl ⊢
    have S' : Hid _ := S
    clear S hbig
    have X : Hid (IzAt (w.alloc (.cells #[.int .i64 f, .slice a n c] 24)) a ls ∧ Below w.heap.size w (w.alloc (.cells #[.int .i64 f, .slice a n c] 24))) := ⟨h.out.alloc _, (Below.refl _ _).alloc (Nat.le_refl _) _⟩
    go_enter Try.func5, Try.ntmps5
    go_wp2_with fail
    refine (S'.out _ X.out.1).mono ?_
    rintro e w1 ⟨rfl, q⟩
    have X1 : Hid (Below w.heap.size w w1) := X.out.2.trans (q.mono X.out.2.size)
    clear q
    go_wp2
    go_ret
    exact ⟨rfl, X1.out⟩
  rw [if_neg hbig] at S
  have hB : r.big ≤ 1048576 := by omega
  have T : ∀ w, Hid (IzAt w a r.lists) → Calls Try.prog 10 #[r.val a c] w fun e w' => (∃ p q, e = .returned (.agg #[.int .i64 r.most, .slice p r.lists.length q]) ∧ RwIn w.heap.size w'.heap.size w' (.agg #[.int .i64 r.most, .slice p r.lists.length q]) r) ∧ Below w.heap.size w w' := fun w h => (toRws r a c w hB h).mono fun e w' hh => by
    obtain ⟨⟨v, rfl, hi⟩, hb⟩ := hh
    obtain ⟨p, q, rfl⟩ := hi.cells
    exact ⟨⟨p, q, rfl, hi⟩, hb⟩
  have hXB := big_popped (r := r) (row := row) hB
  obtain ⟨X, hXe⟩ : ∃ X, r.popped row = X := ⟨_, rfl⟩
  obtain ⟨tb, htb⟩ : ∃ tb, r.poppedB row = tb := ⟨_, rfl⟩
  obtain ⟨J, hJ⟩ : ∃ J, r.poppedI row = J := ⟨_, rfl⟩
  have C : ∀ v w, Hid (RwAt w v r) → Calls Try.prog 18 #[v, .int .i64 row] w fun e w' => (∃ p q, e = .returned (.tuple #[.agg #[.int .i64 X.most, .slice p X.lists.length q], J.val, .bool tb]) ∧ RwIn w.heap.size w'.heap.size w' (.agg #[.int .i64 X.most, .slice p X.lists.length q]) X) ∧ Below w.heap.size w w' := fun v w h => (specPopped r v row w hB h).mono fun e w' hh => by
    rw [hXe, htb, hJ] at hh
    obtain ⟨⟨v, rfl, hi⟩, hb⟩ := hh
    obtain ⟨p, q, rfl⟩ := hi.cells
    exact ⟨⟨p, q, rfl, hi⟩, hb⟩
  have D : ∀ v w, Hid (RwAt w v r) → Calls Try.prog 19 #[v, .int .i64 row] w fun e w' => (∃ p q, e = .returned (.tuple #[.agg #[.int .i64 X.most, .slice p X.lists.length q], J.val, .bool tb]) ∧ RwIn w.heap.size w'.heap.size w' (.agg #[.int .i64 X.most, .slice p X.lists.length q]) X) ∧ Below w.heap.size w w' := fun v w h => (implPopped r v row w hB h).mono fun e w' hh => by
    rw [hXe, htb, hJ] at hh
    obtain ⟨⟨v, rfl, hi⟩, hb⟩ := hh
    obtain ⟨p, q, rfl⟩ := hi.cells
    exact ⟨⟨p, q, rfl, hi⟩, hb⟩
  rw [hXe] at hXB
  have ER := fun v1 v2 w h1 h2 => eqRws v1 v2 r w hB h1 h2
  have EX := fun v1 v2 w h1 h2 => eqRws v1 v2 X w hXB h1 h2
  have MR : ∀ b t v w, Hid (RwIn b t w v r) → Calls Try.prog 16 #[v, .int .i64 1] w fun e w' => e = .returned (.int .i64 (1 + 3 * (izSum r.lists r.lists.length : Int))) ∧ Span b t w w' := fun b t v w h => (markRws 1 (by omega) (by omega) b t v r w hB h).mono fun _ _ hh => ⟨hh.1, hh.2.2⟩
  have MX := fun b t v w h => markRws 1 (by omega) (by omega) b t v X w hXB h
  have HX := fun v w h => heldRws 1 (by omega) (by omega) v X w hXB h
  have m0 : ¬ 1 + 3 * (izSum r.lists r.lists.length : Int) < 0 := by omega
  have m1 : ¬ 1 + 3 * (izSum X.lists X.lists.length : Int) < 0 := by omega
  generalize 1 + 3 * (izSum r.lists r.lists.length : Int) = kr at MR m0
  generalize 1 + 3 * (izSum X.lists X.lists.length : Int) = kx at MX HX m1
  obtain ⟨Xm, hXm⟩ : ∃ Xm, X.mk' 1 = Xm := ⟨_, rfl⟩
  rw [hXm] at MX HX
  have hb0 : ¬ (1048576 : Int) - (r.big : Nat) < 0 := hbig
  generalize (1048576 : Int) - (r.big : Nat) = left at S hb0
  obtain ⟨n, hn⟩ : ∃ n, r.lists.length = n := ⟨_, rfl⟩
  obtain ⟨f, hf⟩ : ∃ f, r.most = f := ⟨_, rfl⟩
  obtain ⟨xn, hxn⟩ : ∃ n, X.lists.length = n := ⟨_, rfl⟩
  obtain ⟨xf, hxf⟩ : ∃ f, X.most = f := ⟨_, rfl⟩
  unfold Rw.val at S T ⊢
  have EI := fun w => eqIt J w
  obtain ⟨j0, j1, j2⟩ := J
  simp only [It.val] at C D EI
  have EI' : Hid _ := EI
  simp only [hn, hf] at S T ⊢
  simp only [hxn, hxf] at C D
  have S' : Hid _ := S
  have T' : Hid _ := T
  have C' : Hid _ := C
  have D' : Hid _ := D
  have ER' : Hid _ := ER
  have EX' : Hid _ := EX
  have MR' : Hid _ := MR
  have MX' : Hid _ := MX
  have HX' : Hid _ := HX
  clear S T C D ER EX MR MX HX hbig hB hXB hXe htb hXm hn hf hxn hxf hl hin EI hJ
  obtain ⟨W, hW⟩ : ∃ W, W = w.alloc (.cells #[.int .i64 f, .slice a n c] 24) := ⟨_, rfl⟩
  have X0 : Hid (PoS w f a n c W) := by
    rw [hW]
    exact ⟨Boxed.new w _ _, (Below.refl _ _).alloc (Nat.le_refl _) _⟩
  have HW : Hid (W = _) := hW
  have K : Hid (∀ w', PoS w f a n c w' → IzAt w' a r.lists) := fun w' g => h.out.below g.bel
  clear h hW
  go_enter Try.func5, Try.ntmps5
  go_wp2_with fail
  rw [← HW.out]
  refine (S'.out _ (K.out _ X0.out)).mono ?_
  rintro e w1 ⟨rfl, q⟩
  have X1 : Hid (PoS w f a n c w1) := X0.out.below q
  clear q X0 S' HW
  have c0 : w1.cell? ⟨w.heap.size, 0, none⟩ = some (.int .i64 f) := X1.out.1.cell 0 rfl
  have c1 : w1.cell? ⟨w.heap.size, 1, none⟩ = some (.slice a n c) := X1.out.1.cell 1 rfl
  go_wp2_with fail
  refine (T'.out _ (K.out _ X1.out)).mono ?_
  rintro e wA ⟨⟨pA, qA, rfl, iA⟩, g⟩
  have XA : Hid (PoS w f a n c wA ∧ RwAt wA (.agg #[.int .i64 f, .slice pA n qA]) r) := ⟨X1.out.below g, iA.at⟩
  clear g iA X1 c0 c1
  go_wp2_with fail
  refine (C'.out _ _ XA.out.2).mono ?_
  rintro e wB ⟨⟨p0, q0, rfl, iB⟩, g⟩
  go_upto_region 6 with fail
  have Y : Hid (PoS w f a n c ((wB.alloc (.cells #[.int .i64 xf, .slice p0 xn q0] 29)).alloc (.cells #[.int .i64 j0, .int .i64 j1, .int .i64 j2] 37)) ∧ RwH (w.heap.size + 1) wA.heap.size wB.heap.size wB.heap.size #[.int .i64 xf, .slice p0 xn q0] X ((wB.alloc (.cells #[.int .i64 xf, .slice p0 xn q0] 29)).alloc (.cells #[.int .i64 j0, .int .i64 j1, .int .i64 j2] 37)) ∧ Boxed ((wB.alloc (.cells #[.int .i64 xf, .slice p0 xn q0] 29)).alloc (.cells #[.int .i64 j0, .int .i64 j1, .int .i64 j2] 37)) (wB.heap.size + 1) #[.int .i64 j0, .int .i64 j1, .int .i64 j2] 37) := by
    have b1 : Below wB.heap.size wB (wB.alloc (.cells #[.int .i64 xf, .slice p0 xn q0] 29)) := (Below.refl _ _).alloc (Nat.le_refl _) _
    have h1 := RwH.new (s := w.heap.size + 1) iB g.size (Nat.le_refl _) XA.out.1.lt rfl
    refine ⟨((XA.out.1.below g).below b1).below ((Below.refl _ _).alloc (Nat.le_refl _) _), h1.below ((Below.refl _ _).alloc (Nat.le_refl _) _), ?_⟩
    have := Boxed.new (wB.alloc (.cells #[.int .i64 xf, .slice p0 xn q0] 29)) #[.int .i64 j0, .int .i64 j1, .int .i64 j2] 37
    simpa using this
  generalize (wB.alloc (.cells #[.int .i64 xf, .slice p0 xn q0] 29)).alloc (.cells #[.int .i64 j0, .int .i64 j1, .int .i64 j2] 37) = w5 at Y ⊢
  generalize wB.heap.size = B0 at Y ⊢
  generalize wA.heap.size = b0 at Y
  clear g iB XA
  have c0 : w5.cell? ⟨w.heap.size, 0, none⟩ = some (.int .i64 f) := Y.out.1.1.cell 0 rfl
  have c1 : w5.cell? ⟨w.heap.size, 1, none⟩ = some (.slice a n c) := Y.out.1.1.cell 1 rfl
  go_wp2_with fail
  refine (T'.out _ (K.out _ Y.out.1)).mono ?_
  rintro e wC ⟨⟨p1, q1, rfl, iC⟩, g⟩
  go_upto_region 7 with fail
  have Y6 : Hid (PoS w f a n c (wC.alloc (.cells #[.int .i64 f, .slice p1 n q1] 29)) ∧ RwH (w.heap.size + 1) b0 B0 B0 #[.int .i64 xf, .slice p0 xn q0] X (wC.alloc (.cells #[.int .i64 f, .slice p1 n q1] 29)) ∧ Boxed (wC.alloc (.cells #[.int .i64 f, .slice p1 n q1] 29)) (B0 + 1) #[.int .i64 j0, .int .i64 j1, .int .i64 j2] 37 ∧ RwH (w.heap.size + 1) w5.heap.size wC.heap.size wC.heap.size #[.int .i64 f, .slice p1 n q1] r (wC.alloc (.cells #[.int .i64 f, .slice p1 n q1] 29)) ∧ w5.heap.size ≤ wC.heap.size ∧ wC.heap.size < (wC.alloc (.cells #[.int .i64 f, .slice p1 n q1] 29)).heap.size) := by
    have b1 : Below w5.heap.size w5 (wC.alloc (.cells #[.int .i64 f, .slice p1 n q1] 29)) := g.alloc g.size _
    exact ⟨Y.out.1.below b1, Y.out.2.1.below b1, Y.out.2.2.below Y.out.2.2.under b1, RwH.new iC g.size (Nat.le_refl _) Y.out.1.lt rfl, g.size, by simp⟩
  have L0 : Hid (B0 < w5.heap.size ∧ B0 + 1 < w5.heap.size) := ⟨Y.out.2.1.box.under, Y.out.2.2.under⟩
  generalize wC.alloc (.cells #[.int .i64 f, .slice p1 n q1] 29) = w6 at Y6 ⊢
  generalize wC.heap.size = B1 at Y6 ⊢
  generalize w5.heap.size = b1 at Y6 L0
  clear g iC Y c0 c1
  have d0 : w6.cell? ⟨B1, 0, none⟩ = some (.int .i64 f) := Y6.out.2.2.2.1.box.cell 0 rfl
  have d1 : w6.cell? ⟨B1, 1, none⟩ = some (.slice p1 n q1) := Y6.out.2.2.2.1.box.cell 1 rfl
  go_wp2_with fail
  refine (D'.out _ _ Y6.out.2.2.2.1.at).mono ?_
  rintro e wD ⟨⟨p2, q2, rfl, iD⟩, g⟩
  go_upto_region 8 with fail
  have Z : Hid (PoT w f a n c X X xf xn b0 B0 B0 p0 q0 w6.heap.size wD.heap.size wD.heap.size p2 q2 (B0 + 1) (wD.heap.size + 1) j0 j1 j2 ((wD.alloc (.cells #[.int .i64 xf, .slice p2 xn q2] 29)).alloc (.cells #[.int .i64 j0, .int .i64 j1, .int .i64 j2] 37)) ∧ RwH (w.heap.size + 1) b1 B1 B1 #[.int .i64 f, .slice p1 n q1] r ((wD.alloc (.cells #[.int .i64 xf, .slice p2 xn q2] 29)).alloc (.cells #[.int .i64 j0, .int .i64 j1, .int .i64 j2] 37)) ∧ (B0 < b1 ∧ B0 + 1 < b1 ∧ B1 ≤ w6.heap.size ∧ B1 ≤ wD.heap.size)) := by
    have b2 : Below w6.heap.size w6 ((wD.alloc (.cells #[.int .i64 xf, .slice p2 xn q2] 29)).alloc (.cells #[.int .i64 j0, .int .i64 j1, .int .i64 j2] 37)) := (g.alloc g.size _).alloc (by have := g.size; simp; omega) _
    have h1 := RwH.new (s := w.heap.size + 1) iD g.size (Nat.le_refl _) Y6.out.1.lt rfl
    have h2 := g.size
    have h3 := Y6.out.2.2.2.2
    have h4 := L0.out
    refine ⟨⟨Y6.out.1.below b2, Y6.out.2.1.below b2, h1.below ((Below.refl _ _).alloc (Nat.le_refl _) _), by omega, by omega, Y6.out.2.2.1.below Y6.out.2.2.1.under b2, ?_, by omega, .inr (by omega)⟩, Y6.out.2.2.2.1.below b2, by omega⟩
    have := Boxed.new (wD.alloc (.cells #[.int .i64 xf, .slice p2 xn q2] 29)) #[.int .i64 j0, .int .i64 j1, .int .i64 j2] 37
    simpa using this
  generalize (wD.alloc (.cells #[.int .i64 xf, .slice p2 xn q2] 29)).alloc (.cells #[.int .i64 j0, .int .i64 j1, .int .i64 j2] 37) = w7 at Z ⊢
  generalize wD.heap.size = B2 at Z ⊢
  generalize w6.heap.size = b2 at Z
  clear g iD Y6 L0 d0 d1
  have Rel : Hid (B0 < b1 ∧ B0 + 1 < b1 ∧ B1 ≤ b2 ∧ B1 ≤ B2) := Z.out.2.2
  have u0 : w7.cell? ⟨B2, 0, none⟩ = some (.int .i64 xf) := Z.out.1.hg.box.cell 0 rfl
  have u1 : w7.cell? ⟨B2, 1, none⟩ = some (.slice p2 xn q2) := Z.out.1.hg.box.cell 1 rfl
  have v0 : w7.cell? ⟨B0, 0, none⟩ = some (.int .i64 xf) := Z.out.1.h0.box.cell 0 rfl
  have v1 : w7.cell? ⟨B0, 1, none⟩ = some (.slice p0 xn q0) := Z.out.1.h0.box.cell 1 rfl
  go_wp2_with fail
  refine (EX'.out _ _ _ Z.out.1.hg.at Z.out.1.h0.at).mono ?_
  rintro e w8 ⟨rfl, g⟩
  have Z8 : Hid (PoT w f a n c X X xf xn b0 B0 B0 p0 q0 b2 B2 B2 p2 q2 (B0 + 1) (B2 + 1) j0 j1 j2 w8 ∧ RwH (w.heap.size + 1) b1 B1 B1 #[.int .i64 f, .slice p1 n q1] r w8) := ⟨Z.out.1.below g, Z.out.2.1.below g⟩
  clear g Z u0 u1 v0 v1
  have u0 : w8.cell? ⟨B2 + 1, 0, none⟩ = some (.int .i64 j0) := Z8.out.1.k2.cell 0 rfl
  have u1 : w8.cell? ⟨B2 + 1, 1, none⟩ = some (.int .i64 j1) := Z8.out.1.k2.cell 1 rfl
  have u2 : w8.cell? ⟨B2 + 1, 2, none⟩ = some (.int .i64 j2) := Z8.out.1.k2.cell 2 rfl
  have v0 : w8.cell? ⟨B0 + 1, 0, none⟩ = some (.int .i64 j0) := Z8.out.1.k0.cell 0 rfl
  have v1 : w8.cell? ⟨B0 + 1, 1, none⟩ = some (.int .i64 j1) := Z8.out.1.k0.cell 1 rfl
  have v2 : w8.cell? ⟨B0 + 1, 2, none⟩ = some (.int .i64 j2) := Z8.out.1.k0.cell 2 rfl
  go_wp2_with fail
  refine (EI'.out _).mono ?_
  rintro e w9 ⟨rfl, g⟩
  have Z9 : Hid (PoT w f a n c X X xf xn b0 B0 B0 p0 q0 b2 B2 B2 p2 q2 (B0 + 1) (B2 + 1) j0 j1 j2 w9 ∧ RwH (w.heap.size + 1) b1 B1 B1 #[.int .i64 f, .slice p1 n q1] r w9) := ⟨Z8.out.1.below g, Z8.out.2.below g⟩
  clear g Z8 u0 u1 u2 v0 v1 v2
  go_upto_region 10 with fail
  go_cut [60] (fun s wc => Hid (s = .bool false ∧ PoT w f a n c X X xf xn b0 B0 B0 p0 q0 b2 B2 B2 p2 q2 (B0 + 1) (B2 + 1) j0 j1 j2 wc ∧ RwH (w.heap.size + 1) b1 B1 B1 #[.int .i64 f, .slice p1 n q1] r wc))
  case first =>
    have c0 : w9.cell? ⟨w.heap.size, 0, none⟩ = some (.int .i64 f) := Z9.out.1.bs.1.cell 0 rfl
    have c1 : w9.cell? ⟨w.heap.size, 1, none⟩ = some (.slice a n c) := Z9.out.1.bs.1.cell 1 rfl
    have d0 : w9.cell? ⟨B1, 0, none⟩ = some (.int .i64 f) := Z9.out.2.box.cell 0 rfl
    have d1 : w9.cell? ⟨B1, 1, none⟩ = some (.slice p1 n q1) := Z9.out.2.box.cell 1 rfl
    go_wp2_with fail
    go_region_law (first | (refine stepCall rfl 10 rfl #[.agg #[.int .i64 f, .slice a n c]] (by kernel_rfl) (T'.out w9.drew ((K.out _ Z9.out.1.bs).drew)) ?_; rintro e wE ⟨⟨pE, qE, rfl, iE⟩, q⟩; have q' : Below w9.heap.size w9 wE := (Below.refl _ w9).drew.trans q; have ZE : Hid ((PoT w f a n c X X xf xn b0 B0 B0 p0 q0 b2 B2 B2 p2 q2 (B0 + 1) (B2 + 1) j0 j1 j2 wE ∧ RwH (w.heap.size + 1) b1 B1 B1 #[.int .i64 f, .slice p1 n q1] r wE) ∧ RwAt wE (.agg #[.int .i64 f, .slice pE n qE]) r) := ⟨⟨Z9.out.1.below q', Z9.out.2.below q'⟩, iE.at⟩; have dE0 : wE.cell? ⟨B1, 0, none⟩ = some (.int .i64 f) := ZE.out.1.2.box.cell 0 rfl; have dE1 : wE.cell? ⟨B1, 1, none⟩ = some (.slice p1 n q1) := ZE.out.1.2.box.cell 1 rfl; clear q q' iE; refine ⟨_, rfl, ?_⟩) | (refine stepCall rfl 12 rfl #[.agg #[.int .i64 f, .slice p1 n q1], .agg #[.int .i64 f, .slice pE n qE]] (by kernel_rfl) (ER'.out _ _ wE ZE.out.1.2.at ZE.out.2) ?_; rintro e wF ⟨rfl, q⟩; have ZF : Hid (PoT w f a n c X X xf xn b0 B0 B0 p0 q0 b2 B2 B2 p2 q2 (B0 + 1) (B2 + 1) j0 j1 j2 wF ∧ RwH (w.heap.size + 1) b1 B1 B1 #[.int .i64 f, .slice p1 n q1] r wF) := ⟨ZE.out.1.1.below q, ZE.out.1.2.below q⟩; clear q; refine ⟨_, rfl, ?_⟩))
    all_goals (go_wp2_with fail; go_meet; exact ⟨rfl, ZF.out⟩)
  case rest =>
  obtain ⟨rfl, hP⟩ := hcut.out
  obtain ⟨wF, rfl⟩ : ∃ wF, wF = wc := ⟨_, rfl⟩
  have ZF : Hid (PoT w f a n c X X xf xn b0 B0 B0 p0 q0 b2 B2 B2 p2 q2 (B0 + 1) (B2 + 1) j0 j1 j2 wF ∧ RwH (w.heap.size + 1) b1 B1 B1 #[.int .i64 f, .slice p1 n q1] r wF) := hP
  clear hcut hP Z9
  have d0 : wF.cell? ⟨B1, 0, none⟩ = some (.int .i64 f) := ZF.out.2.box.cell 0 rfl
  have d1 : wF.cell? ⟨B1, 1, none⟩ = some (.slice p1 n q1) := ZF.out.2.box.cell 1 rfl
  go_wp2_with fail
  refine (MR'.out b1 B1 _ _ ZF.out.2.mem).mono ?_
  rintro e wG ⟨rfl, q⟩
  have ZG : Hid (PoT w f a n c X X xf xn b0 B0 B0 p0 q0 b2 B2 B2 p2 q2 (B0 + 1) (B2 + 1) j0 j1 j2 wG) := by
    obtain ⟨r1, r2, r3, r4⟩ := Rel.out
    exact ZF.out.1.other q ZF.out.2.sb (by omega) r1 r3 r4 r2 (by omega)
  clear q ZF d0 d1 Rel
  go_upto_region 14 with fail
  have u0 : wG.cell? ⟨B2, 0, none⟩ = some (.int .i64 xf) := ZG.out.hg.box.cell 0 rfl
  have u1 : wG.cell? ⟨B2, 1, none⟩ = some (.slice p2 xn q2) := ZG.out.hg.box.cell 1 rfl
  have v0 : wG.cell? ⟨B0, 0, none⟩ = some (.int .i64 xf) := ZG.out.h0.box.cell 0 rfl
  have v1 : wG.cell? ⟨B0, 1, none⟩ = some (.slice p0 xn q0) := ZG.out.h0.box.cell 1 rfl
  go_wp2_with fail
  refine (EX'.out _ _ _ ZG.out.hg.at ZG.out.h0.at).mono ?_
  rintro e wH ⟨rfl, q⟩
  have ZH : Hid (PoT w f a n c X X xf xn b0 B0 B0 p0 q0 b2 B2 B2 p2 q2 (B0 + 1) (B2 + 1) j0 j1 j2 wH) := ZG.out.below q
  clear q ZG u0 u1 v0 v1
  have u0 : wH.cell? ⟨B2 + 1, 0, none⟩ = some (.int .i64 j0) := ZH.out.k2.cell 0 rfl
  have u1 : wH.cell? ⟨B2 + 1, 1, none⟩ = some (.int .i64 j1) := ZH.out.k2.cell 1 rfl
  have u2 : wH.cell? ⟨B2 + 1, 2, none⟩ = some (.int .i64 j2) := ZH.out.k2.cell 2 rfl
  have v0 : wH.cell? ⟨B0 + 1, 0, none⟩ = some (.int .i64 j0) := ZH.out.k0.cell 0 rfl
  have v1 : wH.cell? ⟨B0 + 1, 1, none⟩ = some (.int .i64 j1) := ZH.out.k0.cell 1 rfl
  have v2 : wH.cell? ⟨B0 + 1, 2, none⟩ = some (.int .i64 j2) := ZH.out.k0.cell 2 rfl
  go_wp2_with fail
  refine (EI'.out _).mono ?_
  rintro e wI ⟨rfl, q⟩
  have ZI : Hid (PoT w f a n c X X xf xn b0 B0 B0 p0 q0 b2 B2 B2 p2 q2 (B0 + 1) (B2 + 1) j0 j1 j2 wI) := ZH.out.below q
  clear q ZH u0 u1 u2 v0 v1 v2
  go_upto_region 17 with fail
  have u0 : wI.cell? ⟨B2, 0, none⟩ = some (.int .i64 xf) := ZI.out.hg.box.cell 0 rfl
  have u1 : wI.cell? ⟨B2, 1, none⟩ = some (.slice p2 xn q2) := ZI.out.hg.box.cell 1 rfl
  go_wp2_with fail
  refine (MX'.out b2 B2 _ _ ZI.out.hg.mem).mono ?_
  rintro e wJ ⟨rfl, m, q⟩
  have ZJ : Hid (PoT w f a n c X Xm xf xn b0 B0 B0 p0 q0 b2 B2 B2 p2 q2 (B0 + 1) (B2 + 1) j0 j1 j2 wJ) := ZI.out.mark q m
  clear q m ZI u0 u1
  go_upto_region 19 with fail
  have u0 : wJ.cell? ⟨B2, 0, none⟩ = some (.int .i64 xf) := ZJ.out.hg.box.cell 0 rfl
  have u1 : wJ.cell? ⟨B2, 1, none⟩ = some (.slice p2 xn q2) := ZJ.out.hg.box.cell 1 rfl
  go_wp2_with fail
  refine (HX'.out _ _ ZJ.out.hg.at).mono ?_
  rintro e wK ⟨rfl, q⟩
  have ZK : Hid (PoT w f a n c X Xm xf xn b0 B0 B0 p0 q0 b2 B2 B2 p2 q2 (B0 + 1) (B2 + 1) j0 j1 j2 wK) := ZJ.out.below q
  clear q ZJ u0 u1
  go_upto_region 24 with fail
  have c0 : wK.cell? ⟨w.heap.size, 0, none⟩ = some (.int .i64 f) := ZK.out.bs.1.cell 0 rfl
  have c1 : wK.cell? ⟨w.heap.size, 1, none⟩ = some (.slice a n c) := ZK.out.bs.1.cell 1 rfl
  go_wp2_with fail
  refine (T'.out _ (K.out _ ZK.out.bs)).mono ?_
  rintro e wL ⟨⟨pL, qL, rfl, iL⟩, q⟩
  have ZL : Hid (PoT w f a n c X Xm xf xn b0 B0 B0 p0 q0 b2 B2 B2 p2 q2 (B0 + 1) (B2 + 1) j0 j1 j2 wL ∧ RwAt wL (.agg #[.int .i64 f, .slice pL n qL]) r) := ⟨ZK.out.below q, iL.at⟩
  clear q iL ZK c0 c1
  go_wp2_with fail
  refine (D'.out _ _ ZL.out.2).mono ?_
  rintro e wM ⟨⟨p3, q3, rfl, iM⟩, q⟩
  go_upto_region 25 with fail
  have ZN : Hid (PoT w f a n c X Xm xf xn b0 B0 B0 p0 q0 b2 B2 B2 p2 q2 (B0 + 1) (B2 + 1) j0 j1 j2 ((wM.alloc (.cells #[.int .i64 xf, .slice p3 xn q3] 29)).alloc (.cells #[.int .i64 j0, .int .i64 j1, .int .i64 j2] 37)) ∧ RwAt ((wM.alloc (.cells #[.int .i64 xf, .slice p3 xn q3] 29)).alloc (.cells #[.int .i64 j0, .int .i64 j1, .int .i64 j2] 37)) (.agg #[.int .i64 xf, .slice p3 xn q3]) X ∧ Boxed ((wM.alloc (.cells #[.int .i64 xf, .slice p3 xn q3] 29)).alloc (.cells #[.int .i64 j0, .int .i64 j1, .int .i64 j2] 37)) wM.heap.size #[.int .i64 xf, .slice p3 xn q3] 29 ∧ Boxed ((wM.alloc (.cells #[.int .i64 xf, .slice p3 xn q3] 29)).alloc (.cells #[.int .i64 j0, .int .i64 j1, .int .i64 j2] 37)) (wM.heap.size + 1) #[.int .i64 j0, .int .i64 j1, .int .i64 j2] 37) := by
    have b1 : Below wM.heap.size wM ((wM.alloc (.cells #[.int .i64 xf, .slice p3 xn q3] 29)).alloc (.cells #[.int .i64 j0, .int .i64 j1, .int .i64 j2] 37)) := ((Below.refl _ _).alloc (Nat.le_refl _) _).alloc (by simp) _
    refine ⟨(ZL.out.1.below q).below b1, iM.at.below b1, (Boxed.new _ _ _).more _, ?_⟩
    have := Boxed.new (wM.alloc (.cells #[.int .i64 xf, .slice p3 xn q3] 29)) #[.int .i64 j0, .int .i64 j1, .int .i64 j2] 37
    simpa using this
  generalize (wM.alloc (.cells #[.int .i64 xf, .slice p3 xn q3] 29)).alloc (.cells #[.int .i64 j0, .int .i64 j1, .int .i64 j2] 37) = wN at ZN ⊢
  generalize wM.heap.size = B3 at ZN ⊢
  clear q iM ZL
  have u0 : wN.cell? ⟨B3, 0, none⟩ = some (.int .i64 xf) := ZN.out.2.2.1.cell 0 rfl
  have u1 : wN.cell? ⟨B3, 1, none⟩ = some (.slice p3 xn q3) := ZN.out.2.2.1.cell 1 rfl
  have v0 : wN.cell? ⟨B0, 0, none⟩ = some (.int .i64 xf) := ZN.out.1.h0.box.cell 0 rfl
  have v1 : wN.cell? ⟨B0, 1, none⟩ = some (.slice p0 xn q0) := ZN.out.1.h0.box.cell 1 rfl
  go_wp2_with fail
  refine (EX'.out _ _ _ ZN.out.2.1 ZN.out.1.h0.at).mono ?_
  rintro e wO ⟨rfl, q⟩
  have ZO : Hid (PoT w f a n c X Xm xf xn b0 B0 B0 p0 q0 b2 B2 B2 p2 q2 (B0 + 1) (B2 + 1) j0 j1 j2 wO ∧ Boxed wO (B3 + 1) #[.int .i64 j0, .int .i64 j1, .int .i64 j2] 37) := ⟨ZN.out.1.below q, ZN.out.2.2.2.below ZN.out.2.2.2.under q⟩
  clear q ZN u0 u1 v0 v1
  have u0 : wO.cell? ⟨B3 + 1, 0, none⟩ = some (.int .i64 j0) := ZO.out.2.cell 0 rfl
  have u1 : wO.cell? ⟨B3 + 1, 1, none⟩ = some (.int .i64 j1) := ZO.out.2.cell 1 rfl
  have u2 : wO.cell? ⟨B3 + 1, 2, none⟩ = some (.int .i64 j2) := ZO.out.2.cell 2 rfl
  have v0 : wO.cell? ⟨B0 + 1, 0, none⟩ = some (.int .i64 j0) := ZO.out.1.k0.cell 0 rfl
  have v1 : wO.cell? ⟨B0 + 1, 1, none⟩ = some (.int .i64 j1) := ZO.out.1.k0.cell 1 rfl
  have v2 : wO.cell? ⟨B0 + 1, 2, none⟩ = some (.int .i64 j2) := ZO.out.1.k0.cell 2 rfl
  go_wp2_with fail
  refine (EI'.out _).mono ?_
  rintro e wP ⟨rfl, q⟩
  have ZP : Hid (PoT w f a n c X Xm xf xn b0 B0 B0 p0 q0 b2 B2 B2 p2 q2 (B0 + 1) (B2 + 1) j0 j1 j2 wP) := ZO.out.1.below q
  clear q ZO u0 u1 u2 v0 v1 v2
  go_upto_region 28 with fail
  have u0 : wP.cell? ⟨B2, 0, none⟩ = some (.int .i64 xf) := ZP.out.hg.box.cell 0 rfl
  have u1 : wP.cell? ⟨B2, 1, none⟩ = some (.slice p2 xn q2) := ZP.out.hg.box.cell 1 rfl
  go_wp2_with fail
  refine (HX'.out _ _ ZP.out.hg.at).mono ?_
  rintro e wQ ⟨rfl, q⟩
  have ZQ : Hid (Below w.heap.size w wQ) := (ZP.out.below q).bs.bel
  clear q ZP u0 u1
  go_wp2
  go_ret
  exact ⟨rfl, ZQ.out⟩
end Go.Proofs.Ytdcekimldgjliaa

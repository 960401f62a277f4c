/-
  The walk of the exact law of Pushed. By the verifier, by program.
-/
import Derived.Test.YtdcekimldgjliaaRwPushI
import Derived.Test.YtdcekimldgjliaaRwPushS
import Derived.Test.YtdcekimldgjliaaRwVar
import Derived.Test.YtdcekimldgjliaaStepRow
import Derived.Test.YtdcekimldgjliaaItTo
import Derived.Test.YtdcekimldgjliaaM5ItCopy
import Derived.Deep.RegionLaw
namespace Go.Proofs.Ytdcekimldgjliaa
open Go.RowKit

/-- What came in, boxed. -/
def PuS (w : World) (f : Int) (a : Option Addr) (n c : Nat) (i0 i1 i2 : Int) (W : World) : Prop := Boxed W w.heap.size #[.int .i64 f, .slice a n c] 24 ∧ Boxed W (w.heap.size + 1) #[.int .i64 i0, .int .i64 i1, .int .i64 i2] 34 ∧ Below w.heap.size w W
theorem PuS.below {w : World} {f : Int} {a : Option Addr} {n c : Nat} {i0 i1 i2 : Int} {W W' : World} (h : PuS w f a n c i0 i1 i2 W) (g : Below W.heap.size W W') : PuS w f a n c i0 i1 i2 W' :=
  ⟨h.1.below h.1.under g, h.2.1.below h.2.1.under g, h.2.2.trans (g.mono h.2.2.size)⟩
theorem PuS.span {w : World} {f : Int} {a : Option Addr} {n c : Nat} {i0 i1 i2 : Int} {W W' : World} {b t : Nat} (h : PuS w f a n c i0 i1 i2 W) (g : Span b t W W') (hb : w.heap.size + 2 ≤ b) : PuS w f a n c i0 i1 i2 W' := by
  have u1 := h.1.under
  have u2 := h.2.1.under
  exact ⟨(g.block _ u1 (by omega)).trans h.1, (g.block _ u2 (by omega)).trans h.2.1, h.2.2.trans (g.below (by omega) (by omega))⟩
theorem PuS.lt {w : World} {f : Int} {a : Option Addr} {n c : Nat} {i0 i1 i2 : Int} {W : World} (h : PuS w f a n c i0 i1 i2 W) : w.heap.size + 2 ≤ W.heap.size := h.2.1.under
theorem PuS.bel {w : World} {f : Int} {a : Option Addr} {n c : Nat} {i0 i1 i2 : Int} {W : World} (h : PuS w f a n c i0 i1 i2 W) : Below w.heap.size w W := h.2.2
/-- What lies behind both calls. -/
structure PuT (w : World) (f : Int) (a : Option Addr) (n c : Nat) (i0 i1 i2 : Int) (X g : Rw) (xf : Int) (xn b0 t0 B0 : Nat) (p0 : Option Addr) (q0 : Nat) (b2 t2 B2 : Nat) (p2 : Option Addr) (q2 : Nat) (W : World) : Prop where
  bs : PuS w f a n c i0 i1 i2 W
  h0 : RwH (w.heap.size + 2) b0 t0 B0 #[.int .i64 xf, .slice p0 xn q0] X W
  hg : RwH (w.heap.size + 2) b2 t2 B2 #[.int .i64 xf, .slice p2 xn q2] g W
  d1 : t0 ≤ b2
  d2 : B0 < b2
section
variable {w : World} {f : Int} {a : Option Addr} {n c : Nat} {i0 i1 i2 : Int} {X g g' : Rw} {xf : Int} {xn b0 t0 B0 : Nat} {p0 : Option Addr} {q0 : Nat} {b2 t2 B2 : Nat} {p2 : Option Addr} {q2 : Nat} {W W' : World} {b1 t1 : Nat}
theorem PuT.below (h : PuT w f a n c i0 i1 i2 X g xf xn b0 t0 B0 p0 q0 b2 t2 B2 p2 q2 W) (q : Below W.heap.size W W') : PuT w f a n c i0 i1 i2 X g xf xn b0 t0 B0 p0 q0 b2 t2 B2 p2 q2 W' := ⟨h.bs.below q, h.h0.below q, h.hg.below q, h.d1, h.d2⟩
theorem PuT.other (h : PuT w f a n c i0 i1 i2 X g xf xn b0 t0 B0 p0 q0 b2 t2 B2 p2 q2 W) (q : Span b1 t1 W W') (s1 : w.heap.size + 2 ≤ b1) (f1 : t0 ≤ b1) (f2 : B0 < b1) (f3 : t1 ≤ b2) (f4 : t1 ≤ B2) : PuT w f a n c i0 i1 i2 X g xf xn b0 t0 B0 p0 q0 b2 t2 B2 p2 q2 W' := ⟨h.bs.span q s1, h.h0.span q (.inl f1) (.inl f2), h.hg.span q (.inr f3) (.inr f4), h.d1, h.d2⟩
theorem PuT.mark (h : PuT w f a n c i0 i1 i2 X g xf xn b0 t0 B0 p0 q0 b2 t2 B2 p2 q2 W) (q : Span b2 t2 W W') (m : RwIn b2 t2 W' (.agg #[.int .i64 xf, .slice p2 xn q2]) g') : PuT w f a n c i0 i1 i2 X g' xf xn b0 t0 B0 p0 q0 b2 t2 B2 p2 q2 W' := ⟨h.bs.span q h.hg.sb, h.h0.span q (.inl h.d1) (.inl h.d2), h.hg.marked q m, h.d1, h.d2⟩
end

theorem big_pushed {r : Rw} {row : Int} {i : It} (h : r.big ≤ 1048576) : (r.pushed row i).big ≤ 1048576 := by
  by_cases hok : r.ok = true
  · have hr := Rw.ok_iff.1 hok
    unfold Rw.pushed
    rw [if_pos hok]
    by_cases hm : r.mayPush row i = true
    · rw [if_pos hm]
      have h1 : ((r.lists.set row.toNat (izAt r.lists row.toNat ++ [i])).flatten).length ≤ r.all.length + 1 := by
        by_cases hj : row.toNat < r.lists.length
        · have e : r.lists = r.lists.take row.toNat ++ izAt r.lists row.toNat :: r.lists.drop (row.toNat + 1) := by
            rw [izAt_lt hj, ← List.drop_eq_getElem_cons hj, List.take_append_drop]
          have e2 : r.lists.set row.toNat (izAt r.lists row.toNat ++ [i]) = r.lists.take row.toNat ++ (izAt r.lists row.toNat ++ [i]) :: r.lists.drop (row.toNat + 1) := List.set_eq_take_append_cons_drop.trans (if_pos hj)
          rw [e2]
          unfold Rw.all
          conv => rhs; rw [e]
          simp only [List.flatten_append, List.flatten_cons, List.length_append, List.length_singleton]
          omega
        · rw [List.set_eq_of_length_le (by omega)]
          show r.all.length ≤ _
          omega
      unfold Rw.big
      have h2 := all_length ⟨r.most, r.lists.set row.toNat (izAt r.lists row.toNat ++ [i])⟩
      unfold Rw.all at h2
      simp only at h2 ⊢
      rw [← h2, List.length_set]
      have h3 := hr.2.2.2.2
      have h4 := hr.1.2
      have h5 := hr.2.1.2
      omega
    · rw [if_neg hm]; exact h
  · unfold Rw.pushed
    rw [if_neg hok]
    simp [Rw.big, izSum]

set_option maxHeartbeats 12800000 in
set_option maxRecDepth 100000 in
theorem fnExactPushed_walk (r : Rw) (a : Option Addr) (c : Nat) (row : Int) (i : It) (w : World) (hl : (r.lists.length : Int) ≤ 9223372036854775807) (hin : Hid (∀ k, k < r.lists.length → ((izAt r.lists k).length : Int) ≤ 9223372036854775807)) (h : Hid (IzAt w a r.lists)) :
    Calls Try.prog 4 #[r.val a c, .int .i64 row, i.val] w fun e w' => e = .returned (.bool true) ∧ Below w.heap.size w w' := by
  have S := fun w h => szRws 1048576 (by omega) (by omega) r a c w hl hin h
  by_cases hbig : (1048576 : Int) - (r.big : Nat) < 0
  · rw [if_pos hbig] at S
    obtain ⟨f, ls⟩ := r
    obtain ⟨i0, i1, i2⟩ := i
    simp only [Rw.val, It.val] at S h ⊢
    generalize ls.length = n at S hl ⊢
    have S' : Hid _ := S
    clear S hbig
    have X : Hid (IzAt ((w.alloc (.cells #[.int .i64 f, .slice a n c] 24)).alloc (.cells #[.int .i64 i0, .int .i64 i1, .int .i64 i2] 34)) a ls ∧ Below w.heap.size w ((w.alloc (.cells #[.int .i64 f, .slice a n c] 24)).alloc (.cells #[.int .i64 i0, .int .i64 i1, .int .i64 i2] 34))) := ⟨(h.out.alloc _).alloc _, ((Below.refl _ _).alloc (Nat.le_refl _) _).alloc (by simp) _⟩
    go_enter Try.func4, Try.ntmps4
    go_wp2_with fail
    refine (S'.out _ X.out.1).mono ?_
    rintro e w1 ⟨rfl, q⟩
    have X1 : Hid (Below w.heap.size w w1) := X.out.2.trans (q.mono X.out.2.size)
    clear q
    go_wp2
    go_ret
    exact ⟨rfl, X1.out⟩
  rw [if_neg hbig] at S
  have hB : r.big ≤ 1048576 := by omega
  have T : ∀ w, Hid (IzAt w a r.lists) → Calls Try.prog 10 #[r.val a c] w fun e w' => (∃ p q, e = .returned (.agg #[.int .i64 r.most, .slice p r.lists.length q]) ∧ RwIn w.heap.size w'.heap.size w' (.agg #[.int .i64 r.most, .slice p r.lists.length q]) r) ∧ Below w.heap.size w w' := fun w h => (toRws r a c w hB h).mono fun e w' hh => by
    obtain ⟨⟨v, rfl, hi⟩, hb⟩ := hh
    obtain ⟨p, q, rfl⟩ := hi.cells
    exact ⟨⟨p, q, rfl, hi⟩, hb⟩
  have TI := fun w => toItB i w
  have hXB := big_pushed (r := r) (row := row) (i := i) hB
  obtain ⟨X, hXe⟩ : ∃ X, r.pushed row i = X := ⟨_, rfl⟩
  obtain ⟨tb, htb⟩ : ∃ tb, r.pushedB row i = tb := ⟨_, rfl⟩
  have C : ∀ v w, Hid (RwAt w v r) → Calls Try.prog 13 #[v, .int .i64 row, i.val] w fun e w' => (∃ p q, e = .returned (.tuple #[.agg #[.int .i64 X.most, .slice p X.lists.length q], .bool tb]) ∧ RwIn w.heap.size w'.heap.size w' (.agg #[.int .i64 X.most, .slice p X.lists.length q]) X) ∧ Below w.heap.size w w' := fun v w h => (specPushed r v row i w hB h).mono fun e w' hh => by
    rw [hXe, htb] at hh
    obtain ⟨⟨v, rfl, hi⟩, hb⟩ := hh
    obtain ⟨p, q, rfl⟩ := hi.cells
    exact ⟨⟨p, q, rfl, hi⟩, hb⟩
  have D : ∀ v w, Hid (RwAt w v r) → Calls Try.prog 15 #[v, .int .i64 row, i.val] w fun e w' => (∃ p q, e = .returned (.tuple #[.agg #[.int .i64 X.most, .slice p X.lists.length q], .bool tb]) ∧ RwIn w.heap.size w'.heap.size w' (.agg #[.int .i64 X.most, .slice p X.lists.length q]) X) ∧ Below w.heap.size w w' := fun v w h => (implPushed r v row i w hB h).mono fun e w' hh => by
    rw [hXe, htb] at hh
    obtain ⟨⟨v, rfl, hi⟩, hb⟩ := hh
    obtain ⟨p, q, rfl⟩ := hi.cells
    exact ⟨⟨p, q, rfl, hi⟩, hb⟩
  rw [hXe] at hXB
  have ER := fun v1 v2 w h1 h2 => eqRws v1 v2 r w hB h1 h2
  have EX := fun v1 v2 w h1 h2 => eqRws v1 v2 X w hXB h1 h2
  have MR : ∀ b t v w, Hid (RwIn b t w v r) → Calls Try.prog 16 #[v, .int .i64 1] w fun e w' => e = .returned (.int .i64 (1 + 3 * (izSum r.lists r.lists.length : Int))) ∧ Span b t w w' := fun b t v w h => (markRws 1 (by omega) (by omega) b t v r w hB h).mono fun _ _ hh => ⟨hh.1, hh.2.2⟩
  have MX := fun b t v w h => markRws 1 (by omega) (by omega) b t v X w hXB h
  have HX := fun v w h => heldRws 1 (by omega) (by omega) v X w hXB h
  have m0 : ¬ 1 + 3 * (izSum r.lists r.lists.length : Int) < 0 := by omega
  have m1 : ¬ 1 + 3 * (izSum X.lists X.lists.length : Int) < 0 := by omega
  generalize 1 + 3 * (izSum r.lists r.lists.length : Int) = kr at MR m0
  generalize 1 + 3 * (izSum X.lists X.lists.length : Int) = kx at MX HX m1
  obtain ⟨Xm, hXm⟩ : ∃ Xm, X.mk' 1 = Xm := ⟨_, rfl⟩
  rw [hXm] at MX HX
  have hb0 : ¬ (1048576 : Int) - (r.big : Nat) < 0 := hbig
  generalize (1048576 : Int) - (r.big : Nat) = left at S hb0
  obtain ⟨n, hn⟩ : ∃ n, r.lists.length = n := ⟨_, rfl⟩
  obtain ⟨f, hf⟩ : ∃ f, r.most = f := ⟨_, rfl⟩
  obtain ⟨xn, hxn⟩ : ∃ n, X.lists.length = n := ⟨_, rfl⟩
  obtain ⟨xf, hxf⟩ : ∃ f, X.most = f := ⟨_, rfl⟩
  unfold Rw.val at S T ⊢
  obtain ⟨i0, i1, i2⟩ := i
  simp only [It.val] at TI C D ⊢
  simp only [hn, hf] at S T ⊢
  simp only [hxn, hxf] at C D
  have S' : Hid _ := S
  have T' : Hid _ := T
  have TI' : Hid _ := TI
  have C' : Hid _ := C
  have D' : Hid _ := D
  have ER' : Hid _ := ER
  have EX' : Hid _ := EX
  have MR' : Hid _ := MR
  have MX' : Hid _ := MX
  have HX' : Hid _ := HX
  clear S T TI C D ER EX MR MX HX hbig hB hXB hXe htb hXm hn hf hxn hxf hl hin
  obtain ⟨W, hW⟩ : ∃ W, W = (w.alloc (.cells #[.int .i64 f, .slice a n c] 24)).alloc (.cells #[.int .i64 i0, .int .i64 i1, .int .i64 i2] 34) := ⟨_, rfl⟩
  have X0 : Hid (PuS w f a n c i0 i1 i2 W) := by
    rw [hW]
    refine ⟨(Boxed.new w _ _).more _, ?_, ((Below.refl _ _).alloc (Nat.le_refl _) _).alloc (by simp) _⟩
    have := Boxed.new (w.alloc (.cells #[.int .i64 f, .slice a n c] 24)) #[.int .i64 i0, .int .i64 i1, .int .i64 i2] 34
    simpa using this
  have HW : Hid (W = _) := hW
  have K : Hid (∀ w', PuS w f a n c i0 i1 i2 w' → IzAt w' a r.lists) := fun w' g => h.out.below g.bel
  clear h hW
  go_enter Try.func4, Try.ntmps4
  go_wp2_with fail
  rw [← HW.out]
  refine (S'.out _ (K.out _ X0.out)).mono ?_
  rintro e w1 ⟨rfl, q⟩
  have X1 : Hid (PuS w f a n c i0 i1 i2 w1) := X0.out.below q
  clear q X0 S' HW
  go_upto_region 5 with fail
  have hpos : 0 < w1.heap.size := by have := X1.out.lt; omega
  refine region_ghost (G := Nat × Nat) (by kernel_rfl) (by kernel_rfl) (by kernel_rfl) (fun j => if j = 1 then 5 else 99) (GI w1) (fun i y x y' x' => RK (([0, 0, 0, 0, 0, 0, 0, 0, 0, 1, 3, 0] : List Nat).getD i 0) y x y' x') (fun i y x v => ([fun _ _ v => v = .agg #[.int .i64 f, .slice a n c], fun _ x v => (∃ p q, v = .agg #[.int .i64 f, .slice p n q]) ∧ RwAt x v r, fun _ _ v => v = .int .i64 row, fun _ _ v => v = .agg #[.int .i64 i0, .int .i64 i1, .int .i64 i2], fun _ _ v => v = .agg #[.int .i64 i0, .int .i64 i1, .int .i64 i2], fun y x v => ∃ p q b t, v = .tuple #[.agg #[.int .i64 xf, .slice p xn q], .bool tb] ∧ Mem w1 b t y x (.agg #[.int .i64 xf, .slice p xn q]) X, fun y x v => ∃ p q b t, v = .tuple #[.agg #[.int .i64 xf, .slice p xn q], .bool tb] ∧ Mem w1 b t y x (.agg #[.int .i64 xf, .slice p xn q]) X, fun y x v => ∃ p q b t, v = .agg #[.int .i64 xf, .slice p xn q] ∧ Mem w1 b t y x (.agg #[.int .i64 xf, .slice p xn q]) X, fun _ _ v => v = .bool tb, fun y _ v => v = .pointer (some ⟨y.1, 0, none⟩) ∧ w1.heap.size ≤ y.1, fun y x _ => ∃ p q b t, Hold w1 b t y x #[.int .i64 xf, .slice p xn q] X, fun _ _ v => v = .bool tb] : List (Nat × Nat → World → Value → Prop)).getD i (fun _ _ _ => True) y x v) ?hR (0, 0) ?h0 ?step ?last
  case hR =>
    intro i j y y' x x' v hi hj hne hu h1 h2 hp hr
    have hi' : i < 12 := hi
    have hj' : j < 12 := hj
    have hcases : j = 0 ∨ j = 1 ∨ j = 2 ∨ j = 3 ∨ j = 4 ∨ j = 5 ∨ j = 6 ∨ j = 7 ∨ j = 8 ∨ j = 9 ∨ j = 10 ∨ j = 11 := by omega
    rcases hcases with rfl | rfl | rfl | rfl | rfl | rfl | rfl | rfl | rfl | rfl | rfl | rfl
    · exact hp
    · have hx : i ≠ 10 := by rintro rfl; exact absurd (Eq.trans (by kernel_rfl) h2 : true = false) (by decide)
      exact ⟨hp.1, at_keep hp.2 hr ((by decide : ∀ i, i < 12 → i ≠ 10 → ([0, 0, 0, 0, 0, 0, 0, 0, 0, 1, 3, 0] : List Nat).getD i 0 ≠ 3) i hi' hx) ((by decide : ∀ i, i < 12 → ([0, 0, 0, 0, 0, 0, 0, 0, 0, 1, 3, 0] : List Nat).getD i 0 ≠ 4) i hi')⟩
    · exact hp
    · exact hp
    · exact hp
    · obtain ⟨p, q, b, t, e, hm⟩ := hp
      exact ⟨p, q, b, t, e, hm.keep hr⟩
    · obtain ⟨p, q, b, t, e, hm⟩ := hp
      exact ⟨p, q, b, t, e, hm.keep hr⟩
    · obtain ⟨p, q, b, t, e, hm⟩ := hp
      exact ⟨p, q, b, t, e, hm.keep hr⟩
    · exact hp
    · have e1 := hr.same1 ((by decide : ∀ i, i < 12 → i ≠ 9 → ([0, 0, 0, 0, 0, 0, 0, 0, 0, 1, 3, 0] : List Nat).getD i 0 ≠ 1) i hi' hne)
      exact ⟨by rw [e1]; exact hp.1, by rw [e1]; exact hp.2⟩
    · have hx : i ≠ 9 := by rintro rfl; exact absurd (Eq.trans (by kernel_rfl) h1 : true = false) (by decide)
      obtain ⟨p, q, b, t, hm⟩ := hp
      exact ⟨p, q, b, t, hm.keep hr ((by decide : ∀ i, i < 12 → i ≠ 9 → ([0, 0, 0, 0, 0, 0, 0, 0, 0, 1, 3, 0] : List Nat).getD i 0 ≠ 1) i hi' hx) ((by decide : ∀ i, i < 12 → i ≠ 10 → ([0, 0, 0, 0, 0, 0, 0, 0, 0, 1, 3, 0] : List Nat).getD i 0 ≠ 3) i hi' hne)⟩
    · exact hp
  case h0 => exact ⟨(Below.refl _ _).drew, hpos, hpos, .inl rfl, .inl rfl⟩
  case step =>
    intro i o hi ho a' y x hkp hI hp
    have BX := X1.out.below hI.bel
    have s3 : a'.tmps.getD 3 undef = .pointer (some ⟨w.heap.size, 0, none⟩) := hkp.slot 3 (by kernel_rfl)
    have s5 : a'.tmps.getD 5 undef = .pointer (some ⟨w.heap.size + 1, 0, none⟩) := hkp.slot 5 (by kernel_rfl)
    have s1 : a'.tmps.getD 1 undef = .int .i64 row := hkp.slot 1 (by kernel_rfl)
    have hi' : i < 12 := hi
    have hcases : i = 0 ∨ i = 1 ∨ i = 2 ∨ i = 3 ∨ i = 4 ∨ i = 5 ∨ i = 6 ∨ i = 7 ∨ i = 8 ∨ i = 9 ∨ i = 10 ∨ i = 11 := by omega
    rcases hcases with rfl | rfl | rfl | rfl | rfl | rfl | rfl | rfl | rfl | rfl | rfl | rfl
    · cases ho
      exact ⟨rfl, wp_load_row 24 (.tmp 3) rfl w.heap.size s3 _ _ _ _ BX.1 Try.underlying24 rfl (by kernel_rfl) ⟨_, y, rfl, RK.stay (by decide) (by decide) (by decide) (by decide) _ _, hI, fun u hu => hu (fun h => by cases h)⟩⟩
    · cases ho
      have ah := hp 0 (of_decide_eq_true (by kernel_rfl)) (.inr (by decide))
      have q0 : a'.tmps[24]?.getD undef = .agg #[.int .i64 f, .slice a n c] := by have h2 : a'.tmps.getD 24 undef = .agg #[.int .i64 f, .slice a n c] := ah; simpa using h2
      refine ⟨rfl, op_callB (by simp [execOp, resolve, Deferred.ofValue, invoke, Act.eval, q0]) (T'.out x (K.out _ BX)) ?_⟩
      rintro e z ⟨⟨p, q, rfl, iz⟩, hb⟩
      exact ⟨_, rfl, _, y, rfl, RK.quiet (by decide) (by decide) (by decide) (by decide) hb, hI.quiet hb, fun u hu => by rw [hu (fun h => by cases h)]; exact ⟨⟨p, q, rfl⟩, iz.at⟩⟩
    · cases ho
      exact ⟨rfl, op_move 1 rfl ⟨_, y, rfl, RK.stay (by decide) (by decide) (by decide) (by decide) _ _, hI, fun u hu => (hu (fun h => by cases h)).trans s1⟩⟩
    · cases ho
      exact ⟨rfl, wp_load_row 34 (.tmp 5) rfl (w.heap.size + 1) s5 _ _ _ _ BX.2.1 Try.underlying34 rfl (by kernel_rfl) ⟨_, y, rfl, RK.stay (by decide) (by decide) (by decide) (by decide) _ _, hI, fun u hu => hu (fun h => by cases h)⟩⟩
    · cases ho
      have ah := hp 3 (of_decide_eq_true (by kernel_rfl)) (.inr (by decide))
      have q0 : a'.tmps[27]?.getD undef = .agg #[.int .i64 i0, .int .i64 i1, .int .i64 i2] := by have h2 : a'.tmps.getD 27 undef = .agg #[.int .i64 i0, .int .i64 i1, .int .i64 i2] := ah; simpa using h2
      refine ⟨rfl, op_callB (by simp [execOp, resolve, Deferred.ofValue, invoke, Act.eval, q0]) (TI'.out x) ?_⟩
      rintro e z ⟨rfl, hb⟩
      exact ⟨_, rfl, _, y, rfl, RK.quiet (by decide) (by decide) (by decide) (by decide) hb, hI.quiet hb, fun u hu => hu (fun h => by cases h)⟩
    · cases ho
      have ah := hp 1 (of_decide_eq_true (by kernel_rfl)) (.inl rfl)
      have bh := hp 2 (of_decide_eq_true (by kernel_rfl)) (.inr (by decide))
      have ch := hp 4 (of_decide_eq_true (by kernel_rfl)) (.inr (by decide))
      obtain ⟨⟨pA, qA, eA⟩, hat⟩ := ah
      have q0 : a'.tmps[25]?.getD undef = .agg #[.int .i64 f, .slice pA n qA] := by have h2 : a'.tmps.getD 25 undef = .agg #[.int .i64 f, .slice pA n qA] := eA; simpa using h2
      rw [eA] at hat
      have q1 : a'.tmps[26]?.getD undef = .int .i64 row := by have h2 : a'.tmps.getD 26 undef = .int .i64 row := bh; simpa using h2
      have q2 : a'.tmps[28]?.getD undef = .agg #[.int .i64 i0, .int .i64 i1, .int .i64 i2] := by have h2 : a'.tmps.getD 28 undef = .agg #[.int .i64 i0, .int .i64 i1, .int .i64 i2] := ch; simpa using h2
      refine ⟨rfl, op_callB (by simp [execOp, resolve, Deferred.ofValue, invoke, Act.eval, q0, q1, q2]) (C'.out _ x hat) ?_⟩
      rintro e z ⟨⟨p, q, rfl, iz⟩, hb⟩
      exact ⟨_, rfl, _, y, rfl, RK.quiet (by decide) (by decide) (by decide) (by decide) hb, hI.quiet hb, fun u hu => by rw [hu (fun h => by cases h)]; exact ⟨p, q, _, _, rfl, Mem.made iz hI hb⟩⟩
    · cases ho
      have ah := hp 5 (of_decide_eq_true (by kernel_rfl)) (.inr (by decide))
      exact ⟨rfl, op_move 29 rfl ⟨_, y, rfl, RK.stay (by decide) (by decide) (by decide) (by decide) _ _, hI, fun u hu => by rw [hu (fun h => by cases h)]; exact ah⟩⟩
    · cases ho
      have ah := hp 6 (of_decide_eq_true (by kernel_rfl)) (.inr (by decide))
      obtain ⟨p, q, b, t, eA, hm⟩ := ah
      have q0 : a'.tmps.getD 23 undef = .tuple #[.agg #[.int .i64 xf, .slice p xn q], .bool tb] := eA
      exact ⟨rfl, op_extract 23 0 rfl _ q0 _ rfl ⟨_, y, rfl, RK.stay (by decide) (by decide) (by decide) (by decide) _ _, hI, fun u hu => by rw [hu (fun h => by cases h)]; exact ⟨p, q, b, t, rfl, hm⟩⟩⟩
    · cases ho
      have ah := hp 6 (of_decide_eq_true (by kernel_rfl)) (.inr (by decide))
      obtain ⟨p, q, b, t, eA, hm⟩ := ah
      have q0 : a'.tmps.getD 23 undef = .tuple #[.agg #[.int .i64 xf, .slice p xn q], .bool tb] := eA
      exact ⟨rfl, op_extract 23 1 rfl _ q0 _ rfl ⟨_, y, rfl, RK.stay (by decide) (by decide) (by decide) (by decide) _ _, hI, fun u hu => hu (fun h => by cases h)⟩⟩
    · cases ho
      exact ⟨rfl, op_alloc_row (z := .agg #[.int .i64 0, .slice none 0 0]) rfl (by kernel_rfl) ⟨_, (x.heap.size, y.2), rfl, RK.alloc1 _ _ _, hI.alloc1 _ _, fun u hu => ⟨hu (fun h => by cases h), hI.bel.size⟩⟩⟩
    · cases ho
      have ah := hp 7 (of_decide_eq_true (by kernel_rfl)) (.inr (by decide))
      have bh := hp 9 (of_decide_eq_true (by kernel_rfl)) (.inr (by decide))
      obtain ⟨p, q, b, t, eA, hm⟩ := ah
      have e1 : a'.tmps.getD 30 undef = .agg #[.int .i64 xf, .slice p xn q] := eA
      have e2 : a'.tmps.getD 8 undef = .pointer (some ⟨y.1, 0, none⟩) := bh.1
      have e3 : w1.heap.size ≤ y.1 := bh.2
      obtain ⟨z0, z1, hz⟩ : ∃ z0 z1, Boxed x y.1 #[z0, z1] 29 := by
        rcases hI.c1 with h0 | ⟨_, h0⟩
        · omega
        · exact h0
      refine ⟨rfl, wp_store_row 29 (.tmp 8) (.tmp 30) rfl y.1 #[.int .i64 xf, .slice p xn q] (by simpa [Act.eval] using e2) (by simpa [Act.eval] using e1) _ _ hz (by kernel_rfl) rfl (by simp [Value.oneCell']) ⟨_, y, rfl, RK.store1 hz _, ?_, fun u _ => ⟨p, q, b, t, setRow_heap _ _ _ _ _ _ hz, hm.keep (RK.store1 hz _), e3⟩⟩⟩
      rcases hI.store1 e3 (.int .i64 xf) (.slice p xn q) with h0 | h0
      · exact h0
      · omega
    · cases ho
      have ah := hp 8 (of_decide_eq_true (by kernel_rfl)) (.inr (by decide))
      have q0 : a'.tmps.getD 31 undef = .bool tb := ah
      exact ⟨rfl, op_assign 31 rfl ⟨_, y, rfl, RK.stay (by decide) (by decide) (by decide) (by decide) _ _, hI, fun u hu => (hu (fun h => by cases h)).trans q0⟩⟩
  case last =>
  intro a' y x hkp hI hp
  have eB : a'.tmps.getD 8 undef = .pointer (some ⟨y.1, 0, none⟩) := (hp 9 (by decide) (by decide)).1
  have eK : a'.tmps.getD 9 undef = .bool tb := hp 11 (by decide) (by decide)
  obtain ⟨p0, q0, b0, t0, hH⟩ := hp 10 (by decide) (by decide)
  have ha := hkp.pick [true, true, true, true, true, true, true, true, false, false, true, true, true, true, true, true, true, true, true, true, true, true, true, false, false, false, false, false, false, false, false, false, true, true, true, true, true, true, true, true, true, true, true, true, true, true, true, true, true, true, true, true, true, true, true, true, true, true, true, true, true, true, true, true, true, true, true, true, true, true, true, true, true, true, true, true, true, true, true, true, true, true, true, true, true, true, true, true, true, true, true, true, true, true, true, true, true, true, true, true, true, true, true, true, true, true, true, true, true] (by kernel_rfl)
  simp only [pickS] at ha
  rw [eB, eK] at ha
  obtain ⟨B0, hB9⟩ : ∃ z, y.1 = z := ⟨_, rfl⟩
  have Yg : Hid (PuS w f a n c i0 i1 i2 x ∧ RwH (w.heap.size + 2) b0 t0 B0 #[.int .i64 xf, .slice p0 xn q0] X x) := by
    have h := hH.var
    rw [hB9] at h
    exact ⟨X1.out.below hI.bel, h.box, h.mem, h.lo, h.up, h.off, Nat.le_trans X1.out.lt h.sb, Nat.le_trans X1.out.lt h.sB⟩
  rw [hB9] at ha
  clear hp hkp eB eK hH hI hB9 hpos
  generalize a'.tmps.getD 24 undef = y24 at ha
  generalize a'.tmps.getD 25 undef = y25 at ha
  generalize a'.tmps.getD 26 undef = y26 at ha
  generalize a'.tmps.getD 27 undef = y27 at ha
  generalize a'.tmps.getD 28 undef = y28 at ha
  generalize a'.tmps.getD 29 undef = y29 at ha
  generalize a'.tmps.getD 23 undef = y23 at ha
  generalize a'.tmps.getD 30 undef = y30 at ha
  generalize a'.tmps.getD 31 undef = y31 at ha
  rw [ha]
  clear ha
  obtain ⟨w5, rfl⟩ : ∃ z, z = x := ⟨_, rfl⟩
  have Y : Hid (PuS w f a n c i0 i1 i2 w5 ∧ RwH (w.heap.size + 2) b0 t0 B0 #[.int .i64 xf, .slice p0 xn q0] X w5) := Yg
  clear Yg X1
  have c0 : w5.cell? ⟨w.heap.size, 0, none⟩ = some (.int .i64 f) := Y.out.1.1.cell 0 rfl
  have c1 : w5.cell? ⟨w.heap.size, 1, none⟩ = some (.slice a n c) := Y.out.1.1.cell 1 rfl
  have ci0 : w5.cell? ⟨w.heap.size + 1, 0, none⟩ = some (.int .i64 i0) := Y.out.1.2.1.cell 0 rfl
  have ci1 : w5.cell? ⟨w.heap.size + 1, 1, none⟩ = some (.int .i64 i1) := Y.out.1.2.1.cell 1 rfl
  have ci2 : w5.cell? ⟨w.heap.size + 1, 2, none⟩ = some (.int .i64 i2) := Y.out.1.2.1.cell 2 rfl
  go_wp2_with fail
  refine (T'.out _ (K.out _ Y.out.1)).mono ?_
  rintro e wC ⟨⟨p1, q1, rfl, iC⟩, g⟩
  go_upto_region 7 with fail
  have Y6 : Hid (PuS w f a n c i0 i1 i2 (wC.alloc (.cells #[.int .i64 f, .slice p1 n q1] 29)) ∧ RwH (w.heap.size + 2) b0 t0 B0 #[.int .i64 xf, .slice p0 xn q0] X (wC.alloc (.cells #[.int .i64 f, .slice p1 n q1] 29)) ∧ RwH (w.heap.size + 2) w5.heap.size wC.heap.size wC.heap.size #[.int .i64 f, .slice p1 n q1] r (wC.alloc (.cells #[.int .i64 f, .slice p1 n q1] 29)) ∧ w5.heap.size ≤ wC.heap.size ∧ wC.heap.size < (wC.alloc (.cells #[.int .i64 f, .slice p1 n q1] 29)).heap.size) := by
    have b1 : Below w5.heap.size w5 (wC.alloc (.cells #[.int .i64 f, .slice p1 n q1] 29)) := g.alloc g.size _
    exact ⟨Y.out.1.below b1, Y.out.2.below b1, RwH.new iC g.size (Nat.le_refl _) Y.out.1.lt rfl, g.size, by simp⟩
  have L0 : Hid (t0 ≤ w5.heap.size ∧ B0 < w5.heap.size) := ⟨Y.out.2.up, Y.out.2.box.under⟩
  generalize wC.alloc (.cells #[.int .i64 f, .slice p1 n q1] 29) = w6 at Y6 ⊢
  generalize wC.heap.size = B1 at Y6 ⊢
  generalize w5.heap.size = b1 at Y6 L0
  clear g iC Y c0 c1 ci0 ci1 ci2
  skip
  have hpos : 0 < w6.heap.size := by have := Y6.out.1.lt; omega
  refine region_ghost (G := Nat × Nat) (by kernel_rfl) (by kernel_rfl) (by kernel_rfl) (fun _ => 99) (GI w6) (fun i y x y' x' => RK (([0, 0, 0, 0, 0, 0, 0, 0, 1, 3, 0] : List Nat).getD i 0) y x y' x') (fun i y x v => ([fun _ _ v => v = .agg #[.int .i64 f, .slice p1 n q1], fun _ _ v => v = .int .i64 row, fun _ _ v => v = .agg #[.int .i64 i0, .int .i64 i1, .int .i64 i2], fun _ _ v => v = .agg #[.int .i64 i0, .int .i64 i1, .int .i64 i2], fun y x v => ∃ p q b t, v = .tuple #[.agg #[.int .i64 xf, .slice p xn q], .bool tb] ∧ Mem w6 b t y x (.agg #[.int .i64 xf, .slice p xn q]) X, fun y x v => ∃ p q b t, v = .tuple #[.agg #[.int .i64 xf, .slice p xn q], .bool tb] ∧ Mem w6 b t y x (.agg #[.int .i64 xf, .slice p xn q]) X, fun y x v => ∃ p q b t, v = .agg #[.int .i64 xf, .slice p xn q] ∧ Mem w6 b t y x (.agg #[.int .i64 xf, .slice p xn q]) X, fun _ _ v => v = .bool tb, fun y _ v => v = .pointer (some ⟨y.1, 0, none⟩) ∧ w6.heap.size ≤ y.1, fun y x _ => ∃ p q b t, Hold w6 b t y x #[.int .i64 xf, .slice p xn q] X, fun _ _ v => v = .bool tb] : List (Nat × Nat → World → Value → Prop)).getD i (fun _ _ _ => True) y x v) ?hR (0, 0) ?h0 ?step ?last
  case hR =>
    intro i j y y' x x' v hi hj hne hu h1 h2 hp hr
    have hi' : i < 11 := hi
    have hj' : j < 11 := hj
    have hcases : j = 0 ∨ j = 1 ∨ j = 2 ∨ j = 3 ∨ j = 4 ∨ j = 5 ∨ j = 6 ∨ j = 7 ∨ j = 8 ∨ j = 9 ∨ j = 10 := by omega
    rcases hcases with rfl | rfl | rfl | rfl | rfl | rfl | rfl | rfl | rfl | rfl | rfl
    · exact hp
    · exact hp
    · exact hp
    · exact hp
    · obtain ⟨p, q, b, t, e, hm⟩ := hp
      exact ⟨p, q, b, t, e, hm.keep hr⟩
    · obtain ⟨p, q, b, t, e, hm⟩ := hp
      exact ⟨p, q, b, t, e, hm.keep hr⟩
    · obtain ⟨p, q, b, t, e, hm⟩ := hp
      exact ⟨p, q, b, t, e, hm.keep hr⟩
    · exact hp
    · have e1 := hr.same1 ((by decide : ∀ i, i < 11 → i ≠ 8 → ([0, 0, 0, 0, 0, 0, 0, 0, 1, 3, 0] : List Nat).getD i 0 ≠ 1) i hi' hne)
      exact ⟨by rw [e1]; exact hp.1, by rw [e1]; exact hp.2⟩
    · have hx : i ≠ 8 := by rintro rfl; exact absurd (Eq.trans (by kernel_rfl) h1 : true = false) (by decide)
      obtain ⟨p, q, b, t, hm⟩ := hp
      exact ⟨p, q, b, t, hm.keep hr ((by decide : ∀ i, i < 11 → i ≠ 8 → ([0, 0, 0, 0, 0, 0, 0, 0, 1, 3, 0] : List Nat).getD i 0 ≠ 1) i hi' hx) ((by decide : ∀ i, i < 11 → i ≠ 9 → ([0, 0, 0, 0, 0, 0, 0, 0, 1, 3, 0] : List Nat).getD i 0 ≠ 3) i hi' hne)⟩
    · exact hp
  case h0 => exact ⟨(Below.refl _ _).drew, hpos, hpos, .inl rfl, .inl rfl⟩
  case step =>
    intro i o hi ho a' y x hkp hI hp
    have BX := Y6.out.1.below hI.bel
    have s3 : a'.tmps.getD 3 undef = .pointer (some ⟨w.heap.size, 0, none⟩) := hkp.slot 3 (by kernel_rfl)
    have s5 : a'.tmps.getD 5 undef = .pointer (some ⟨w.heap.size + 1, 0, none⟩) := hkp.slot 5 (by kernel_rfl)
    have s1 : a'.tmps.getD 1 undef = .int .i64 row := hkp.slot 1 (by kernel_rfl)
    have s10 : a'.tmps.getD 10 undef = .pointer (some ⟨B1, 0, none⟩) := hkp.slot 10 (by kernel_rfl)
    have HX := Y6.out.2.2.1.below hI.bel
    have hi' : i < 11 := hi
    have hcases : i = 0 ∨ i = 1 ∨ i = 2 ∨ i = 3 ∨ i = 4 ∨ i = 5 ∨ i = 6 ∨ i = 7 ∨ i = 8 ∨ i = 9 ∨ i = 10 := by omega
    rcases hcases with rfl | rfl | rfl | rfl | rfl | rfl | rfl | rfl | rfl | rfl | rfl
    · cases ho
      exact ⟨rfl, wp_load_row 29 (.tmp 10) rfl B1 s10 _ _ _ _ HX.box Try.underlying29 rfl (by kernel_rfl) ⟨_, y, rfl, RK.stay (by decide) (by decide) (by decide) (by decide) _ _, hI, fun u hu => hu (fun h => by cases h)⟩⟩
    · cases ho
      exact ⟨rfl, op_move 1 rfl ⟨_, y, rfl, RK.stay (by decide) (by decide) (by decide) (by decide) _ _, hI, fun u hu => (hu (fun h => by cases h)).trans s1⟩⟩
    · cases ho
      exact ⟨rfl, wp_load_row 34 (.tmp 5) rfl (w.heap.size + 1) s5 _ _ _ _ BX.2.1 Try.underlying34 rfl (by kernel_rfl) ⟨_, y, rfl, RK.stay (by decide) (by decide) (by decide) (by decide) _ _, hI, fun u hu => hu (fun h => by cases h)⟩⟩
    · cases ho
      have ah := hp 2 (of_decide_eq_true (by kernel_rfl)) (.inr (by decide))
      have q0 : a'.tmps[37]?.getD undef = .agg #[.int .i64 i0, .int .i64 i1, .int .i64 i2] := by have h2 : a'.tmps.getD 37 undef = .agg #[.int .i64 i0, .int .i64 i1, .int .i64 i2] := ah; simpa using h2
      refine ⟨rfl, op_callB (by simp [execOp, resolve, Deferred.ofValue, invoke, Act.eval, q0]) (TI'.out x) ?_⟩
      rintro e z ⟨rfl, hb⟩
      exact ⟨_, rfl, _, y, rfl, RK.quiet (by decide) (by decide) (by decide) (by decide) hb, hI.quiet hb, fun u hu => hu (fun h => by cases h)⟩
    · cases ho
      have ah := hp 0 (of_decide_eq_true (by kernel_rfl)) (.inr (by decide))
      have bh := hp 1 (of_decide_eq_true (by kernel_rfl)) (.inr (by decide))
      have ch := hp 3 (of_decide_eq_true (by kernel_rfl)) (.inr (by decide))
      have q0 : a'.tmps[35]?.getD undef = .agg #[.int .i64 f, .slice p1 n q1] := by have h2 : a'.tmps.getD 35 undef = .agg #[.int .i64 f, .slice p1 n q1] := ah; simpa using h2
      have q1 : a'.tmps[36]?.getD undef = .int .i64 row := by have h2 : a'.tmps.getD 36 undef = .int .i64 row := bh; simpa using h2
      have q2 : a'.tmps[38]?.getD undef = .agg #[.int .i64 i0, .int .i64 i1, .int .i64 i2] := by have h2 : a'.tmps.getD 38 undef = .agg #[.int .i64 i0, .int .i64 i1, .int .i64 i2] := ch; simpa using h2
      refine ⟨rfl, op_callB (by simp [execOp, resolve, Deferred.ofValue, invoke, Act.eval, q0, q1, q2]) (D'.out _ x HX.at) ?_⟩
      rintro e z ⟨⟨p, q, rfl, iz⟩, hb⟩
      exact ⟨_, rfl, _, y, rfl, RK.quiet (by decide) (by decide) (by decide) (by decide) hb, hI.quiet hb, fun u hu => by rw [hu (fun h => by cases h)]; exact ⟨p, q, _, _, rfl, Mem.made iz hI hb⟩⟩
    · cases ho
      have ah := hp 4 (of_decide_eq_true (by kernel_rfl)) (.inr (by decide))
      exact ⟨rfl, op_move 39 rfl ⟨_, y, rfl, RK.stay (by decide) (by decide) (by decide) (by decide) _ _, hI, fun u hu => by rw [hu (fun h => by cases h)]; exact ah⟩⟩
    · cases ho
      have ah := hp 5 (of_decide_eq_true (by kernel_rfl)) (.inr (by decide))
      obtain ⟨p, q, b, t, eA, hm⟩ := ah
      have q0 : a'.tmps.getD 34 undef = .tuple #[.agg #[.int .i64 xf, .slice p xn q], .bool tb] := eA
      exact ⟨rfl, op_extract 34 0 rfl _ q0 _ rfl ⟨_, y, rfl, RK.stay (by decide) (by decide) (by decide) (by decide) _ _, hI, fun u hu => by rw [hu (fun h => by cases h)]; exact ⟨p, q, b, t, rfl, hm⟩⟩⟩
    · cases ho
      have ah := hp 5 (of_decide_eq_true (by kernel_rfl)) (.inr (by decide))
      obtain ⟨p, q, b, t, eA, hm⟩ := ah
      have q0 : a'.tmps.getD 34 undef = .tuple #[.agg #[.int .i64 xf, .slice p xn q], .bool tb] := eA
      exact ⟨rfl, op_extract 34 1 rfl _ q0 _ rfl ⟨_, y, rfl, RK.stay (by decide) (by decide) (by decide) (by decide) _ _, hI, fun u hu => hu (fun h => by cases h)⟩⟩
    · cases ho
      exact ⟨rfl, op_alloc_row (z := .agg #[.int .i64 0, .slice none 0 0]) rfl (by kernel_rfl) ⟨_, (x.heap.size, y.2), rfl, RK.alloc1 _ _ _, hI.alloc1 _ _, fun u hu => ⟨hu (fun h => by cases h), hI.bel.size⟩⟩⟩
    · cases ho
      have ah := hp 6 (of_decide_eq_true (by kernel_rfl)) (.inr (by decide))
      have bh := hp 8 (of_decide_eq_true (by kernel_rfl)) (.inr (by decide))
      obtain ⟨p, q, b, t, eA, hm⟩ := ah
      have e1 : a'.tmps.getD 40 undef = .agg #[.int .i64 xf, .slice p xn q] := eA
      have e2 : a'.tmps.getD 11 undef = .pointer (some ⟨y.1, 0, none⟩) := bh.1
      have e3 : w6.heap.size ≤ y.1 := bh.2
      obtain ⟨z0, z1, hz⟩ : ∃ z0 z1, Boxed x y.1 #[z0, z1] 29 := by
        rcases hI.c1 with h0 | ⟨_, h0⟩
        · omega
        · exact h0
      refine ⟨rfl, wp_store_row 29 (.tmp 11) (.tmp 40) rfl y.1 #[.int .i64 xf, .slice p xn q] (by simpa [Act.eval] using e2) (by simpa [Act.eval] using e1) _ _ hz (by kernel_rfl) rfl (by simp [Value.oneCell']) ⟨_, y, rfl, RK.store1 hz _, ?_, fun u _ => ⟨p, q, b, t, setRow_heap _ _ _ _ _ _ hz, hm.keep (RK.store1 hz _), e3⟩⟩⟩
      rcases hI.store1 e3 (.int .i64 xf) (.slice p xn q) with h0 | h0
      · exact h0
      · omega
    · cases ho
      have ah := hp 7 (of_decide_eq_true (by kernel_rfl)) (.inr (by decide))
      have q0 : a'.tmps.getD 41 undef = .bool tb := ah
      exact ⟨rfl, op_assign 41 rfl ⟨_, y, rfl, RK.stay (by decide) (by decide) (by decide) (by decide) _ _, hI, fun u hu => (hu (fun h => by cases h)).trans q0⟩⟩
  case last =>
  intro a' y x hkp hI hp
  have eB : a'.tmps.getD 11 undef = .pointer (some ⟨y.1, 0, none⟩) := (hp 8 (by decide) (by decide)).1
  have eK : a'.tmps.getD 12 undef = .bool tb := hp 10 (by decide) (by decide)
  obtain ⟨p2, q2, b2, t2, hH⟩ := hp 9 (by decide) (by decide)
  have ha := hkp.pick [true, true, true, true, true, true, true, true, true, true, true, false, false, true, true, true, true, true, true, true, true, true, true, true, true, true, true, true, true, true, true, true, true, true, false, false, false, false, false, false, false, false, true, true, true, true, true, true, true, true, true, true, true, true, true, true, true, true, true, true, true, true, true, true, true, true, true, true, true, true, true, true, true, true, true, true, true, true, true, true, true, true, true, true, true, true, true, true, true, true, true, true, true, true, true, true, true, true, true, true, true, true, true, true, true, true, true, true, true] (by kernel_rfl)
  simp only [pickS] at ha
  rw [eB, eK] at ha
  obtain ⟨B2, hB9⟩ : ∃ z, y.1 = z := ⟨_, rfl⟩
  have Zg : Hid (PuT w f a n c i0 i1 i2 X X xf xn b0 t0 B0 p0 q0 b2 t2 B2 p2 q2 x ∧ RwH (w.heap.size + 2) b1 B1 B1 #[.int .i64 f, .slice p1 n q1] r x ∧ (t0 ≤ b1 ∧ B0 < b1 ∧ B1 ≤ b2 ∧ B1 ≤ B2)) := by
    have h := hH.var
    rw [hB9] at h
    have h1 := h.sb
    have h2 := h.sB
    have h3 := Y6.out.2.2.2
    have h4 := L0.out
    exact ⟨⟨Y6.out.1.below hI.bel, Y6.out.2.1.below hI.bel, ⟨h.box, h.mem, h.lo, h.up, h.off, Nat.le_trans Y6.out.1.lt h.sb, Nat.le_trans Y6.out.1.lt h.sB⟩, by omega, by omega⟩, Y6.out.2.2.1.below hI.bel, by omega⟩
  rw [hB9] at ha
  clear hp hkp eB eK hH hI hB9 hpos
  generalize a'.tmps.getD 35 undef = y35 at ha
  generalize a'.tmps.getD 36 undef = y36 at ha
  generalize a'.tmps.getD 37 undef = y37 at ha
  generalize a'.tmps.getD 38 undef = y38 at ha
  generalize a'.tmps.getD 39 undef = y39 at ha
  generalize a'.tmps.getD 34 undef = y34 at ha
  generalize a'.tmps.getD 40 undef = y40 at ha
  generalize a'.tmps.getD 41 undef = y41 at ha
  rw [ha]
  clear ha
  obtain ⟨w7, rfl⟩ : ∃ z, z = x := ⟨_, rfl⟩
  have Z : Hid (PuT w f a n c i0 i1 i2 X X xf xn b0 t0 B0 p0 q0 b2 t2 B2 p2 q2 w7 ∧ RwH (w.heap.size + 2) b1 B1 B1 #[.int .i64 f, .slice p1 n q1] r w7 ∧ (t0 ≤ b1 ∧ B0 < b1 ∧ B1 ≤ b2 ∧ B1 ≤ B2)) := Zg
  have Rel : Hid (t0 ≤ b1 ∧ B0 < b1 ∧ B1 ≤ b2 ∧ B1 ≤ B2) := Z.out.2.2
  clear Zg Y6 L0
  have u0 : w7.cell? ⟨B2, 0, none⟩ = some (.int .i64 xf) := Z.out.1.hg.box.cell 0 rfl
  have u1 : w7.cell? ⟨B2, 1, none⟩ = some (.slice p2 xn q2) := Z.out.1.hg.box.cell 1 rfl
  have v0 : w7.cell? ⟨B0, 0, none⟩ = some (.int .i64 xf) := Z.out.1.h0.box.cell 0 rfl
  have v1 : w7.cell? ⟨B0, 1, none⟩ = some (.slice p0 xn q0) := Z.out.1.h0.box.cell 1 rfl
  go_wp2_with fail
  refine (EX'.out _ _ _ Z.out.1.hg.at Z.out.1.h0.at).mono ?_
  rintro e w8 ⟨rfl, g⟩
  have Z8 : Hid (PuT w f a n c i0 i1 i2 X X xf xn b0 t0 B0 p0 q0 b2 t2 B2 p2 q2 w8 ∧ RwH (w.heap.size + 2) b1 B1 B1 #[.int .i64 f, .slice p1 n q1] r w8) := ⟨Z.out.1.below g, Z.out.2.1.below g⟩
  clear g Z u0 u1 v0 v1
  go_upto_region 10 with fail
  go_cut [55] (fun s wc => Hid (s = .bool false ∧ PuT w f a n c i0 i1 i2 X X xf xn b0 t0 B0 p0 q0 b2 t2 B2 p2 q2 wc ∧ RwH (w.heap.size + 2) b1 B1 B1 #[.int .i64 f, .slice p1 n q1] r wc))
  case first =>
    have c0 : w8.cell? ⟨w.heap.size, 0, none⟩ = some (.int .i64 f) := Z8.out.1.bs.1.cell 0 rfl
    have c1 : w8.cell? ⟨w.heap.size, 1, none⟩ = some (.slice a n c) := Z8.out.1.bs.1.cell 1 rfl
    have ci0 : w8.cell? ⟨w.heap.size + 1, 0, none⟩ = some (.int .i64 i0) := Z8.out.1.bs.2.1.cell 0 rfl
    have ci1 : w8.cell? ⟨w.heap.size + 1, 1, none⟩ = some (.int .i64 i1) := Z8.out.1.bs.2.1.cell 1 rfl
    have ci2 : w8.cell? ⟨w.heap.size + 1, 2, none⟩ = some (.int .i64 i2) := Z8.out.1.bs.2.1.cell 2 rfl
    have d0 : w8.cell? ⟨B1, 0, none⟩ = some (.int .i64 f) := Z8.out.2.box.cell 0 rfl
    have d1 : w8.cell? ⟨B1, 1, none⟩ = some (.slice p1 n q1) := Z8.out.2.box.cell 1 rfl
    go_wp2_with fail
    go_region_law (first | (refine stepCall rfl 10 rfl #[.agg #[.int .i64 f, .slice a n c]] (by kernel_rfl) (T'.out w8.drew ((K.out _ Z8.out.1.bs).drew)) ?_; rintro e wE ⟨⟨pE, qE, rfl, iE⟩, q⟩; have q' : Below w8.heap.size w8 wE := (Below.refl _ w8).drew.trans q; have ZE : Hid ((PuT w f a n c i0 i1 i2 X X xf xn b0 t0 B0 p0 q0 b2 t2 B2 p2 q2 wE ∧ RwH (w.heap.size + 2) b1 B1 B1 #[.int .i64 f, .slice p1 n q1] r wE) ∧ RwAt wE (.agg #[.int .i64 f, .slice pE n qE]) r) := ⟨⟨Z8.out.1.below q', Z8.out.2.below q'⟩, iE.at⟩; have dE0 : wE.cell? ⟨B1, 0, none⟩ = some (.int .i64 f) := ZE.out.1.2.box.cell 0 rfl; have dE1 : wE.cell? ⟨B1, 1, none⟩ = some (.slice p1 n q1) := ZE.out.1.2.box.cell 1 rfl; clear q q' iE; refine ⟨_, rfl, ?_⟩) | (refine stepCall rfl 12 rfl #[.agg #[.int .i64 f, .slice p1 n q1], .agg #[.int .i64 f, .slice pE n qE]] (by kernel_rfl) (ER'.out _ _ wE ZE.out.1.2.at ZE.out.2) ?_; rintro e wF ⟨rfl, q⟩; have ZF : Hid (PuT w f a n c i0 i1 i2 X X xf xn b0 t0 B0 p0 q0 b2 t2 B2 p2 q2 wF ∧ RwH (w.heap.size + 2) b1 B1 B1 #[.int .i64 f, .slice p1 n q1] r wF) := ⟨ZE.out.1.1.below q, ZE.out.1.2.below q⟩; clear q; refine ⟨_, rfl, ?_⟩))
    all_goals (go_wp2_with fail; go_meet; exact ⟨rfl, ZF.out⟩)
  case rest =>
  obtain ⟨rfl, hP⟩ := hcut.out
  obtain ⟨wF, rfl⟩ : ∃ wF, wF = wc := ⟨_, rfl⟩
  have ZF : Hid (PuT w f a n c i0 i1 i2 X X xf xn b0 t0 B0 p0 q0 b2 t2 B2 p2 q2 wF ∧ RwH (w.heap.size + 2) b1 B1 B1 #[.int .i64 f, .slice p1 n q1] r wF) := hP
  clear hcut hP Z8
  have d0 : wF.cell? ⟨B1, 0, none⟩ = some (.int .i64 f) := ZF.out.2.box.cell 0 rfl
  have d1 : wF.cell? ⟨B1, 1, none⟩ = some (.slice p1 n q1) := ZF.out.2.box.cell 1 rfl
  go_wp2_with fail
  refine (MR'.out b1 B1 _ _ ZF.out.2.mem).mono ?_
  rintro e wG ⟨rfl, q⟩
  have ZG : Hid (PuT w f a n c i0 i1 i2 X X xf xn b0 t0 B0 p0 q0 b2 t2 B2 p2 q2 wG) := by
    obtain ⟨r1, r2, r3, r4⟩ := Rel.out
    exact ZF.out.1.other q ZF.out.2.sb r1 r2 r3 r4
  clear q ZF d0 d1 Rel
  go_upto_region 14 with fail
  have u0 : wG.cell? ⟨B2, 0, none⟩ = some (.int .i64 xf) := ZG.out.hg.box.cell 0 rfl
  have u1 : wG.cell? ⟨B2, 1, none⟩ = some (.slice p2 xn q2) := ZG.out.hg.box.cell 1 rfl
  have v0 : wG.cell? ⟨B0, 0, none⟩ = some (.int .i64 xf) := ZG.out.h0.box.cell 0 rfl
  have v1 : wG.cell? ⟨B0, 1, none⟩ = some (.slice p0 xn q0) := ZG.out.h0.box.cell 1 rfl
  go_wp2_with fail
  refine (EX'.out _ _ _ ZG.out.hg.at ZG.out.h0.at).mono ?_
  rintro e wH ⟨rfl, q⟩
  have ZH : Hid (PuT w f a n c i0 i1 i2 X X xf xn b0 t0 B0 p0 q0 b2 t2 B2 p2 q2 wH) := ZG.out.below q
  clear q ZG u0 u1 v0 v1
  go_upto_region 17 with fail
  have u0 : wH.cell? ⟨B2, 0, none⟩ = some (.int .i64 xf) := ZH.out.hg.box.cell 0 rfl
  have u1 : wH.cell? ⟨B2, 1, none⟩ = some (.slice p2 xn q2) := ZH.out.hg.box.cell 1 rfl
  go_wp2_with fail
  refine (MX'.out b2 t2 _ _ ZH.out.hg.mem).mono ?_
  rintro e wJ ⟨rfl, m, q⟩
  have ZJ : Hid (PuT w f a n c i0 i1 i2 X Xm xf xn b0 t0 B0 p0 q0 b2 t2 B2 p2 q2 wJ) := ZH.out.mark q m
  clear q m ZH u0 u1
  go_upto_region 19 with fail
  have u0 : wJ.cell? ⟨B2, 0, none⟩ = some (.int .i64 xf) := ZJ.out.hg.box.cell 0 rfl
  have u1 : wJ.cell? ⟨B2, 1, none⟩ = some (.slice p2 xn q2) := ZJ.out.hg.box.cell 1 rfl
  go_wp2_with fail
  refine (HX'.out _ _ ZJ.out.hg.at).mono ?_
  rintro e wK ⟨rfl, q⟩
  have ZK : Hid (PuT w f a n c i0 i1 i2 X Xm xf xn b0 t0 B0 p0 q0 b2 t2 B2 p2 q2 wK) := ZJ.out.below q
  clear q ZJ u0 u1
  go_upto_region 24 with fail
  skip
  have hpos : 0 < wK.heap.size := by have := ZK.out.bs.lt; omega
  refine region_ghost (G := Nat × Nat) (by kernel_rfl) (by kernel_rfl) (by kernel_rfl) (fun j => if j = 1 then 5 else 99) (GI wK) (fun i y x y' x' => RK (([0, 0, 0, 0, 0, 0, 0, 0, 0, 1, 3, 0] : List Nat).getD i 0) y x y' x') (fun i y x v => ([fun _ _ v => v = .agg #[.int .i64 f, .slice a n c], fun _ x v => (∃ p q, v = .agg #[.int .i64 f, .slice p n q]) ∧ RwAt x v r, fun _ _ v => v = .int .i64 row, fun _ _ v => v = .agg #[.int .i64 i0, .int .i64 i1, .int .i64 i2], fun _ _ v => v = .agg #[.int .i64 i0, .int .i64 i1, .int .i64 i2], fun y x v => ∃ p q b t, v = .tuple #[.agg #[.int .i64 xf, .slice p xn q], .bool tb] ∧ Mem wK b t y x (.agg #[.int .i64 xf, .slice p xn q]) X, fun y x v => ∃ p q b t, v = .tuple #[.agg #[.int .i64 xf, .slice p xn q], .bool tb] ∧ Mem wK b t y x (.agg #[.int .i64 xf, .slice p xn q]) X, fun y x v => ∃ p q b t, v = .agg #[.int .i64 xf, .slice p xn q] ∧ Mem wK b t y x (.agg #[.int .i64 xf, .slice p xn q]) X, fun _ _ v => v = .bool tb, fun y _ v => v = .pointer (some ⟨y.1, 0, none⟩) ∧ wK.heap.size ≤ y.1, fun y x _ => ∃ p q b t, Hold wK b t y x #[.int .i64 xf, .slice p xn q] X, fun _ _ v => v = .bool tb] : List (Nat × Nat → World → Value → Prop)).getD i (fun _ _ _ => True) y x v) ?hR (0, 0) ?h0 ?step ?last
  case hR =>
    intro i j y y' x x' v hi hj hne hu h1 h2 hp hr
    have hi' : i < 12 := hi
    have hj' : j < 12 := hj
    have hcases : j = 0 ∨ j = 1 ∨ j = 2 ∨ j = 3 ∨ j = 4 ∨ j = 5 ∨ j = 6 ∨ j = 7 ∨ j = 8 ∨ j = 9 ∨ j = 10 ∨ j = 11 := by omega
    rcases hcases with rfl | rfl | rfl | rfl | rfl | rfl | rfl | rfl | rfl | rfl | rfl | rfl
    · exact hp
    · have hx : i ≠ 10 := by rintro rfl; exact absurd (Eq.trans (by kernel_rfl) h2 : true = false) (by decide)
      exact ⟨hp.1, at_keep hp.2 hr ((by decide : ∀ i, i < 12 → i ≠ 10 → ([0, 0, 0, 0, 0, 0, 0, 0, 0, 1, 3, 0] : List Nat).getD i 0 ≠ 3) i hi' hx) ((by decide : ∀ i, i < 12 → ([0, 0, 0, 0, 0, 0, 0, 0, 0, 1, 3, 0] : List Nat).getD i 0 ≠ 4) i hi')⟩
    · exact hp
    · exact hp
    · exact hp
    · obtain ⟨p, q, b, t, e, hm⟩ := hp
      exact ⟨p, q, b, t, e, hm.keep hr⟩
    · obtain ⟨p, q, b, t, e, hm⟩ := hp
      exact ⟨p, q, b, t, e, hm.keep hr⟩
    · obtain ⟨p, q, b, t, e, hm⟩ := hp
      exact ⟨p, q, b, t, e, hm.keep hr⟩
    · exact hp
    · have e1 := hr.same1 ((by decide : ∀ i, i < 12 → i ≠ 9 → ([0, 0, 0, 0, 0, 0, 0, 0, 0, 1, 3, 0] : List Nat).getD i 0 ≠ 1) i hi' hne)
      exact ⟨by rw [e1]; exact hp.1, by rw [e1]; exact hp.2⟩
    · have hx : i ≠ 9 := by rintro rfl; exact absurd (Eq.trans (by kernel_rfl) h1 : true = false) (by decide)
      obtain ⟨p, q, b, t, hm⟩ := hp
      exact ⟨p, q, b, t, hm.keep hr ((by decide : ∀ i, i < 12 → i ≠ 9 → ([0, 0, 0, 0, 0, 0, 0, 0, 0, 1, 3, 0] : List Nat).getD i 0 ≠ 1) i hi' hx) ((by decide : ∀ i, i < 12 → i ≠ 10 → ([0, 0, 0, 0, 0, 0, 0, 0, 0, 1, 3, 0] : List Nat).getD i 0 ≠ 3) i hi' hne)⟩
    · exact hp
  case h0 => exact ⟨(Below.refl _ _).drew, hpos, hpos, .inl rfl, .inl rfl⟩
  case step =>
    intro i o hi ho a' y x hkp hI hp
    have BX := ZK.out.bs.below hI.bel
    have s3 : a'.tmps.getD 3 undef = .pointer (some ⟨w.heap.size, 0, none⟩) := hkp.slot 3 (by kernel_rfl)
    have s5 : a'.tmps.getD 5 undef = .pointer (some ⟨w.heap.size + 1, 0, none⟩) := hkp.slot 5 (by kernel_rfl)
    have s1 : a'.tmps.getD 1 undef = .int .i64 row := hkp.slot 1 (by kernel_rfl)
    have hi' : i < 12 := hi
    have hcases : i = 0 ∨ i = 1 ∨ i = 2 ∨ i = 3 ∨ i = 4 ∨ i = 5 ∨ i = 6 ∨ i = 7 ∨ i = 8 ∨ i = 9 ∨ i = 10 ∨ i = 11 := by omega
    rcases hcases with rfl | rfl | rfl | rfl | rfl | rfl | rfl | rfl | rfl | rfl | rfl | rfl
    · cases ho
      exact ⟨rfl, wp_load_row 24 (.tmp 3) rfl w.heap.size s3 _ _ _ _ BX.1 Try.underlying24 rfl (by kernel_rfl) ⟨_, y, rfl, RK.stay (by decide) (by decide) (by decide) (by decide) _ _, hI, fun u hu => hu (fun h => by cases h)⟩⟩
    · cases ho
      have ah := hp 0 (of_decide_eq_true (by kernel_rfl)) (.inr (by decide))
      have q0 : a'.tmps[84]?.getD undef = .agg #[.int .i64 f, .slice a n c] := by have h2 : a'.tmps.getD 84 undef = .agg #[.int .i64 f, .slice a n c] := ah; simpa using h2
      refine ⟨rfl, op_callB (by simp [execOp, resolve, Deferred.ofValue, invoke, Act.eval, q0]) (T'.out x (K.out _ BX)) ?_⟩
      rintro e z ⟨⟨p, q, rfl, iz⟩, hb⟩
      exact ⟨_, rfl, _, y, rfl, RK.quiet (by decide) (by decide) (by decide) (by decide) hb, hI.quiet hb, fun u hu => by rw [hu (fun h => by cases h)]; exact ⟨⟨p, q, rfl⟩, iz.at⟩⟩
    · cases ho
      exact ⟨rfl, op_move 1 rfl ⟨_, y, rfl, RK.stay (by decide) (by decide) (by decide) (by decide) _ _, hI, fun u hu => (hu (fun h => by cases h)).trans s1⟩⟩
    · cases ho
      exact ⟨rfl, wp_load_row 34 (.tmp 5) rfl (w.heap.size + 1) s5 _ _ _ _ BX.2.1 Try.underlying34 rfl (by kernel_rfl) ⟨_, y, rfl, RK.stay (by decide) (by decide) (by decide) (by decide) _ _, hI, fun u hu => hu (fun h => by cases h)⟩⟩
    · cases ho
      have ah := hp 3 (of_decide_eq_true (by kernel_rfl)) (.inr (by decide))
      have q0 : a'.tmps[87]?.getD undef = .agg #[.int .i64 i0, .int .i64 i1, .int .i64 i2] := by have h2 : a'.tmps.getD 87 undef = .agg #[.int .i64 i0, .int .i64 i1, .int .i64 i2] := ah; simpa using h2
      refine ⟨rfl, op_callB (by simp [execOp, resolve, Deferred.ofValue, invoke, Act.eval, q0]) (TI'.out x) ?_⟩
      rintro e z ⟨rfl, hb⟩
      exact ⟨_, rfl, _, y, rfl, RK.quiet (by decide) (by decide) (by decide) (by decide) hb, hI.quiet hb, fun u hu => hu (fun h => by cases h)⟩
    · cases ho
      have ah := hp 1 (of_decide_eq_true (by kernel_rfl)) (.inl rfl)
      have bh := hp 2 (of_decide_eq_true (by kernel_rfl)) (.inr (by decide))
      have ch := hp 4 (of_decide_eq_true (by kernel_rfl)) (.inr (by decide))
      obtain ⟨⟨pA, qA, eA⟩, hat⟩ := ah
      have q0 : a'.tmps[85]?.getD undef = .agg #[.int .i64 f, .slice pA n qA] := by have h2 : a'.tmps.getD 85 undef = .agg #[.int .i64 f, .slice pA n qA] := eA; simpa using h2
      rw [eA] at hat
      have q1 : a'.tmps[86]?.getD undef = .int .i64 row := by have h2 : a'.tmps.getD 86 undef = .int .i64 row := bh; simpa using h2
      have q2 : a'.tmps[88]?.getD undef = .agg #[.int .i64 i0, .int .i64 i1, .int .i64 i2] := by have h2 : a'.tmps.getD 88 undef = .agg #[.int .i64 i0, .int .i64 i1, .int .i64 i2] := ch; simpa using h2
      refine ⟨rfl, op_callB (by simp [execOp, resolve, Deferred.ofValue, invoke, Act.eval, q0, q1, q2]) (D'.out _ x hat) ?_⟩
      rintro e z ⟨⟨p, q, rfl, iz⟩, hb⟩
      exact ⟨_, rfl, _, y, rfl, RK.quiet (by decide) (by decide) (by decide) (by decide) hb, hI.quiet hb, fun u hu => by rw [hu (fun h => by cases h)]; exact ⟨p, q, _, _, rfl, Mem.made iz hI hb⟩⟩
    · cases ho
      have ah := hp 5 (of_decide_eq_true (by kernel_rfl)) (.inr (by decide))
      exact ⟨rfl, op_move 89 rfl ⟨_, y, rfl, RK.stay (by decide) (by decide) (by decide) (by decide) _ _, hI, fun u hu => by rw [hu (fun h => by cases h)]; exact ah⟩⟩
    · cases ho
      have ah := hp 6 (of_decide_eq_true (by kernel_rfl)) (.inr (by decide))
      obtain ⟨p, q, b, t, eA, hm⟩ := ah
      have q0 : a'.tmps.getD 83 undef = .tuple #[.agg #[.int .i64 xf, .slice p xn q], .bool tb] := eA
      exact ⟨rfl, op_extract 83 0 rfl _ q0 _ rfl ⟨_, y, rfl, RK.stay (by decide) (by decide) (by decide) (by decide) _ _, hI, fun u hu => by rw [hu (fun h => by cases h)]; exact ⟨p, q, b, t, rfl, hm⟩⟩⟩
    · cases ho
      have ah := hp 6 (of_decide_eq_true (by kernel_rfl)) (.inr (by decide))
      obtain ⟨p, q, b, t, eA, hm⟩ := ah
      have q0 : a'.tmps.getD 83 undef = .tuple #[.agg #[.int .i64 xf, .slice p xn q], .bool tb] := eA
      exact ⟨rfl, op_extract 83 1 rfl _ q0 _ rfl ⟨_, y, rfl, RK.stay (by decide) (by decide) (by decide) (by decide) _ _, hI, fun u hu => hu (fun h => by cases h)⟩⟩
    · cases ho
      exact ⟨rfl, op_alloc_row (z := .agg #[.int .i64 0, .slice none 0 0]) rfl (by kernel_rfl) ⟨_, (x.heap.size, y.2), rfl, RK.alloc1 _ _ _, hI.alloc1 _ _, fun u hu => ⟨hu (fun h => by cases h), hI.bel.size⟩⟩⟩
    · cases ho
      have ah := hp 7 (of_decide_eq_true (by kernel_rfl)) (.inr (by decide))
      have bh := hp 9 (of_decide_eq_true (by kernel_rfl)) (.inr (by decide))
      obtain ⟨p, q, b, t, eA, hm⟩ := ah
      have e1 : a'.tmps.getD 90 undef = .agg #[.int .i64 xf, .slice p xn q] := eA
      have e2 : a'.tmps.getD 16 undef = .pointer (some ⟨y.1, 0, none⟩) := bh.1
      have e3 : wK.heap.size ≤ y.1 := bh.2
      obtain ⟨z0, z1, hz⟩ : ∃ z0 z1, Boxed x y.1 #[z0, z1] 29 := by
        rcases hI.c1 with h0 | ⟨_, h0⟩
        · omega
        · exact h0
      refine ⟨rfl, wp_store_row 29 (.tmp 16) (.tmp 90) rfl y.1 #[.int .i64 xf, .slice p xn q] (by simpa [Act.eval] using e2) (by simpa [Act.eval] using e1) _ _ hz (by kernel_rfl) rfl (by simp [Value.oneCell']) ⟨_, y, rfl, RK.store1 hz _, ?_, fun u _ => ⟨p, q, b, t, setRow_heap _ _ _ _ _ _ hz, hm.keep (RK.store1 hz _), e3⟩⟩⟩
      rcases hI.store1 e3 (.int .i64 xf) (.slice p xn q) with h0 | h0
      · exact h0
      · omega
    · cases ho
      have ah := hp 8 (of_decide_eq_true (by kernel_rfl)) (.inr (by decide))
      have q0 : a'.tmps.getD 91 undef = .bool tb := ah
      exact ⟨rfl, op_assign 91 rfl ⟨_, y, rfl, RK.stay (by decide) (by decide) (by decide) (by decide) _ _, hI, fun u hu => (hu (fun h => by cases h)).trans q0⟩⟩
  case last =>
  intro a' y x hkp hI hp
  have eB : a'.tmps.getD 16 undef = .pointer (some ⟨y.1, 0, none⟩) := (hp 9 (by decide) (by decide)).1
  have eK : a'.tmps.getD 17 undef = .bool tb := hp 11 (by decide) (by decide)
  obtain ⟨p3, q3, b3, t3, hH⟩ := hp 10 (by decide) (by decide)
  have ha := hkp.pick [true, true, true, true, true, true, true, true, true, true, true, true, true, true, true, true, false, false, true, true, true, true, true, true, true, true, true, true, true, true, true, true, true, true, true, true, true, true, true, true, true, true, true, true, true, true, true, true, true, true, true, true, true, true, true, true, true, true, true, true, true, true, true, true, true, true, true, true, true, true, true, true, true, true, true, true, true, true, true, true, true, true, true, false, false, false, false, false, false, false, false, false, true, true, true, true, true, true, true, true, true, true, true, true, true, true, true, true, true] (by kernel_rfl)
  simp only [pickS] at ha
  rw [eB, eK] at ha
  obtain ⟨B3, hB9⟩ : ∃ z, y.1 = z := ⟨_, rfl⟩
  have ZN : Hid (PuT w f a n c i0 i1 i2 X Xm xf xn b0 t0 B0 p0 q0 b2 t2 B2 p2 q2 x ∧ RwAt x (.agg #[.int .i64 xf, .slice p3 xn q3]) X ∧ Boxed x B3 #[.int .i64 xf, .slice p3 xn q3] 29) := by
    have h := hH.var
    rw [hB9] at h
    exact ⟨ZK.out.below hI.bel, h.at, h.box⟩
  rw [hB9] at ha
  clear hp hkp eB eK hH hI hB9 hpos
  generalize a'.tmps.getD 84 undef = y84 at ha
  generalize a'.tmps.getD 85 undef = y85 at ha
  generalize a'.tmps.getD 86 undef = y86 at ha
  generalize a'.tmps.getD 87 undef = y87 at ha
  generalize a'.tmps.getD 88 undef = y88 at ha
  generalize a'.tmps.getD 89 undef = y89 at ha
  generalize a'.tmps.getD 83 undef = y83 at ha
  generalize a'.tmps.getD 90 undef = y90 at ha
  generalize a'.tmps.getD 91 undef = y91 at ha
  rw [ha]
  clear ha
  obtain ⟨wN, rfl⟩ : ∃ z, z = x := ⟨_, rfl⟩
  clear ZK
  have u0 : wN.cell? ⟨B3, 0, none⟩ = some (.int .i64 xf) := ZN.out.2.2.cell 0 rfl
  have u1 : wN.cell? ⟨B3, 1, none⟩ = some (.slice p3 xn q3) := ZN.out.2.2.cell 1 rfl
  have v0 : wN.cell? ⟨B0, 0, none⟩ = some (.int .i64 xf) := ZN.out.1.h0.box.cell 0 rfl
  have v1 : wN.cell? ⟨B0, 1, none⟩ = some (.slice p0 xn q0) := ZN.out.1.h0.box.cell 1 rfl
  go_wp2_with fail
  refine (EX'.out _ _ _ ZN.out.2.1 ZN.out.1.h0.at).mono ?_
  rintro e wO ⟨rfl, q⟩
  have ZO : Hid (PuT w f a n c i0 i1 i2 X Xm xf xn b0 t0 B0 p0 q0 b2 t2 B2 p2 q2 wO) := ZN.out.1.below q
  clear q ZN u0 u1 v0 v1
  go_upto_region 28 with fail
  have u0 : wO.cell? ⟨B2, 0, none⟩ = some (.int .i64 xf) := ZO.out.hg.box.cell 0 rfl
  have u1 : wO.cell? ⟨B2, 1, none⟩ = some (.slice p2 xn q2) := ZO.out.hg.box.cell 1 rfl
  go_wp2_with fail
  refine (HX'.out _ _ ZO.out.hg.at).mono ?_
  rintro e wQ ⟨rfl, q⟩
  have ZQ : Hid (Below w.heap.size w wQ) := (ZO.out.below q).bs.bel
  clear q ZO u0 u1
  go_wp2
  go_ret
  exact ⟨rfl, ZQ.out⟩
end Go.Proofs.Ytdcekimldgjliaa

/-
  The walk of the exact law of Served, given what the program's Served answers. By the verifier, by program.
-/
import Derived.Test.YtllmkolchgmjoaaFsServedS
import Derived.Test.YtllmkolchgmjoaaFsVar
import Derived.Test.YtllmkolchgmjoaaFsBig
import Derived.Test.YtllmkolchgmjoaaStepRow
import Derived.Deep.RegionLaw
namespace Go.Proofs.Ytllmkolchgmjoaa
open Go.RowKit

set_option maxHeartbeats 12800000 in
set_option maxRecDepth 100000 in
theorem fnExactServed_of (impl' : ∀ (r : Fs) (v : Value) (w : World), r.big ≤ 1048576 → Hid (FsAt w v r) → Calls Try.prog 9 #[v] w fun e w' => (∃ v', e = .returned (.tuple #[v', .int .i64 (r.servedI), .int .i64 (r.servedN)]) ∧ FsIn w.heap.size w'.heap.size w' v' (r.served)) ∧ Below w.heap.size w w')
    (r : Fs) (a : Option Addr) (c : Nat) (w : World) (hl : (r.flows.length : Int) ≤ 9223372036854775807) (hin : Hid (∀ k, k < r.flows.length → ((fwAt r.flows k).sizes.length : Int) ≤ 9223372036854775807)) (h : Hid (FwsAt w a r.flows)) :
    Calls Try.prog 6 #[r.val a c] w fun e w' => e = .returned (.bool true) ∧ Below w.heap.size w w' := by
  have S := fun w h => szFss 1048576 (by omega) (by omega) r a c w hl hin h
  by_cases hbig : (1048576 : Int) - (r.big : Nat) < 0
  · rw [if_pos hbig] at S
    obtain ⟨f, ls⟩ := r
    simp only [Fs.val] at S h ⊢
    generalize ls.length = n at S hl ⊢
    have S' : Hid _ := S
    clear S hbig
    have X : Hid (FwsAt (w.alloc (.cells #[.int .i64 f, .slice a n c] 46)) a ls ∧ Below w.heap.size w (w.alloc (.cells #[.int .i64 f, .slice a n c] 46))) := ⟨h.out.alloc _, (Below.refl _ _).alloc (Nat.le_refl _) _⟩
    go_enter Try.func6, Try.ntmps6
    go_wp2_with fail
    refine (S'.out _ X.out.1).mono ?_
    rintro e w1 ⟨rfl, q⟩
    have X1 : Hid (Below w.heap.size w w1) := X.out.2.trans (q.mono X.out.2.size)
    clear q
    go_wp2
    go_ret
    exact ⟨rfl, X1.out⟩
  rw [if_neg hbig] at S
  have hB : r.big ≤ 1048576 := by omega
  have T : ∀ w, Hid (FwsAt w a r.flows) → Calls Try.prog 26 #[r.val a c] w fun e w' => (∃ p q, e = .returned (.agg #[.int .i64 r.now, .slice p r.flows.length q]) ∧ FsIn w.heap.size w'.heap.size w' (.agg #[.int .i64 r.now, .slice p r.flows.length q]) r) ∧ Below w.heap.size w w' := fun w h => (toFss r a c w hB h).mono fun e w' hh => by
    obtain ⟨⟨v, rfl, hi⟩, hb⟩ := hh
    obtain ⟨p, q, rfl⟩ := hi.cells
    exact ⟨⟨p, q, rfl, hi⟩, hb⟩
  have hXB := big_served (r := r) hB
  obtain ⟨X, hXe⟩ : ∃ X, r.served = X := ⟨_, rfl⟩
  obtain ⟨t0', ht0'⟩ : ∃ t, r.servedI = t := ⟨_, rfl⟩
  obtain ⟨t1', ht1'⟩ : ∃ t, r.servedN = t := ⟨_, rfl⟩
  have C : ∀ v w, Hid (FsAt w v r) → Calls Try.prog 10 #[v] w fun e w' => (∃ p q, e = .returned (.tuple #[.agg #[.int .i64 X.now, .slice p X.flows.length q], .int .i64 t0', .int .i64 t1']) ∧ FsIn w.heap.size w'.heap.size w' (.agg #[.int .i64 X.now, .slice p X.flows.length q]) X) ∧ Below w.heap.size w w' := fun v w h => (specServed r v w hB h).mono fun e w' hh => by
    rw [hXe, ht0', ht1'] at hh
    obtain ⟨⟨v, rfl, hi⟩, hb⟩ := hh
    obtain ⟨p, q, rfl⟩ := hi.cells
    exact ⟨⟨p, q, rfl, hi⟩, hb⟩
  have D : ∀ v w, Hid (FsAt w v r) → Calls Try.prog 9 #[v] w fun e w' => (∃ p q, e = .returned (.tuple #[.agg #[.int .i64 X.now, .slice p X.flows.length q], .int .i64 t0', .int .i64 t1']) ∧ FsIn w.heap.size w'.heap.size w' (.agg #[.int .i64 X.now, .slice p X.flows.length q]) X) ∧ Below w.heap.size w w' := fun v w h => (impl' r v w hB h).mono fun e w' hh => by
    rw [hXe, ht0', ht1'] at hh
    obtain ⟨⟨v, rfl, hi⟩, hb⟩ := hh
    obtain ⟨p, q, rfl⟩ := hi.cells
    exact ⟨⟨p, q, rfl, hi⟩, hb⟩
  rw [hXe] at hXB
  have ER := fun v1 v2 w h1 h2 => eqFss v1 v2 r w hB h1 h2
  have EX := fun v1 v2 w h1 h2 => eqFss v1 v2 X w hXB h1 h2
  have MR : ∀ b t v w, Hid (FsIn b t w v r) → Calls Try.prog 28 #[v, .int .i64 1] w fun e w' => e = .returned (.int .i64 (1 + 2 * (r.flows.length : Int) + (fwSum r.flows r.flows.length : Int))) ∧ Span b t w w' := fun b t v w h => (markFss 1 (by omega) (by omega) b t v r w hB h).mono fun _ _ hh => ⟨hh.1, hh.2.2⟩
  have MX := fun b t v w h => markFss 1 (by omega) (by omega) b t v X w hXB h
  have HX := fun v w h => heldFss 1 (by omega) (by omega) v X w hXB h
  have m0 : ¬ 1 + 2 * (r.flows.length : Int) + (fwSum r.flows r.flows.length : Int) < 0 := by omega
  have m1 : ¬ 1 + 2 * (X.flows.length : Int) + (fwSum X.flows X.flows.length : Int) < 0 := by omega
  generalize 1 + 2 * (r.flows.length : Int) + (fwSum r.flows r.flows.length : Int) = kr at MR m0
  generalize 1 + 2 * (X.flows.length : Int) + (fwSum X.flows X.flows.length : Int) = kx at MX HX m1
  obtain ⟨Xm, hXm⟩ : ∃ Xm, X.mk' 1 = Xm := ⟨_, rfl⟩
  rw [hXm] at MX HX
  have hb0 : ¬ (1048576 : Int) - (r.big : Nat) < 0 := hbig
  generalize (1048576 : Int) - (r.big : Nat) = left at S hb0
  obtain ⟨n, hn⟩ : ∃ n, r.flows.length = n := ⟨_, rfl⟩
  obtain ⟨f, hf⟩ : ∃ f, r.now = f := ⟨_, rfl⟩
  obtain ⟨xn, hxn⟩ : ∃ n, X.flows.length = n := ⟨_, rfl⟩
  obtain ⟨xf, hxf⟩ : ∃ f, X.now = f := ⟨_, rfl⟩
  unfold Fs.val at S T ⊢
  simp only [hn, hf] at S T ⊢
  simp only [hxn, hxf] at C D
  have S' : Hid _ := S
  have T' : Hid _ := T
  have C' : Hid _ := C
  have D' : Hid _ := D
  have ER' : Hid _ := ER
  have EX' : Hid _ := EX
  have MR' : Hid _ := MR
  have MX' : Hid _ := MX
  have HX' : Hid _ := HX
  clear S T C D ER EX MR MX HX hbig hB hXB hXe ht0' ht1' hXm hn hf hxn hxf hl hin
  obtain ⟨W, hW⟩ : ∃ W, W = w.alloc (.cells #[.int .i64 f, .slice a n c] 46) := ⟨_, rfl⟩
  have X0 : Hid (FsS w f a n c W) := by
    rw [hW]
    exact ⟨Boxed.new w _ _, (Below.refl _ _).alloc (Nat.le_refl _) _⟩
  have HW : Hid (W = _) := hW
  have K : Hid (∀ w', FsS w f a n c w' → FwsAt w' a r.flows) := fun w' g => h.out.below g.bel
  clear h hW
  go_enter Try.func6, Try.ntmps6
  go_wp2_with fail
  rw [← HW.out]
  refine (S'.out _ (K.out _ X0.out)).mono ?_
  rintro e w1 ⟨rfl, q⟩
  have X1 : Hid (FsS w f a n c w1) := X0.out.below q
  clear q X0 S' HW
  have c0 : w1.cell? ⟨w.heap.size, 0, none⟩ = some (.int .i64 f) := X1.out.1.cell 0 rfl
  have c1 : w1.cell? ⟨w.heap.size, 1, none⟩ = some (.slice a n c) := X1.out.1.cell 1 rfl
  go_wp2_with fail
  refine (T'.out _ (K.out _ X1.out)).mono ?_
  rintro e wA ⟨⟨pA, qA, rfl, iA⟩, g⟩
  have XA : Hid (FsS w f a n c wA ∧ FsAt wA (.agg #[.int .i64 f, .slice pA n qA]) r) := ⟨X1.out.below g, iA.at⟩
  clear g iA X1 c0 c1
  go_wp2_with fail
  refine (C'.out _ _ XA.out.2).mono ?_
  rintro e wB ⟨⟨p0, q0, rfl, iB⟩, g⟩
  go_upto_region 6 with fail
  have Y : Hid (FsS w f a n c (wB.alloc (.cells #[.int .i64 xf, .slice p0 xn q0] 26)) ∧ FsH (w.heap.size + 1) wA.heap.size wB.heap.size wB.heap.size #[.int .i64 xf, .slice p0 xn q0] X (wB.alloc (.cells #[.int .i64 xf, .slice p0 xn q0] 26))) := by
    have b1 : Below wB.heap.size wB (wB.alloc (.cells #[.int .i64 xf, .slice p0 xn q0] 26)) := (Below.refl _ _).alloc (Nat.le_refl _) _
    exact ⟨(XA.out.1.below g).below b1, FsH.new (s := w.heap.size + 1) iB g.size (Nat.le_refl _) XA.out.1.lt rfl⟩
  generalize wB.alloc (.cells #[.int .i64 xf, .slice p0 xn q0] 26) = w5 at Y ⊢
  generalize wB.heap.size = B0 at Y ⊢
  generalize wA.heap.size = b0 at Y
  clear g iB XA
  have c0 : w5.cell? ⟨w.heap.size, 0, none⟩ = some (.int .i64 f) := Y.out.1.1.cell 0 rfl
  have c1 : w5.cell? ⟨w.heap.size, 1, none⟩ = some (.slice a n c) := Y.out.1.1.cell 1 rfl
  go_wp2_with fail
  refine (T'.out _ (K.out _ Y.out.1)).mono ?_
  rintro e wC ⟨⟨p1, q1, rfl, iC⟩, g⟩
  go_upto_region 7 with fail
  have Y6 : Hid (FsS w f a n c (wC.alloc (.cells #[.int .i64 f, .slice p1 n q1] 26)) ∧ FsH (w.heap.size + 1) b0 B0 B0 #[.int .i64 xf, .slice p0 xn q0] X (wC.alloc (.cells #[.int .i64 f, .slice p1 n q1] 26)) ∧ FsH (w.heap.size + 1) w5.heap.size wC.heap.size wC.heap.size #[.int .i64 f, .slice p1 n q1] r (wC.alloc (.cells #[.int .i64 f, .slice p1 n q1] 26)) ∧ w5.heap.size ≤ wC.heap.size ∧ wC.heap.size < (wC.alloc (.cells #[.int .i64 f, .slice p1 n q1] 26)).heap.size) := by
    have b1 : Below w5.heap.size w5 (wC.alloc (.cells #[.int .i64 f, .slice p1 n q1] 26)) := g.alloc g.size _
    exact ⟨Y.out.1.below b1, Y.out.2.below b1, FsH.new iC g.size (Nat.le_refl _) Y.out.1.lt rfl, g.size, by simp⟩
  have L0 : Hid (B0 < w5.heap.size) := Y.out.2.box.under
  generalize wC.alloc (.cells #[.int .i64 f, .slice p1 n q1] 26) = w6 at Y6 ⊢
  generalize wC.heap.size = B1 at Y6 ⊢
  generalize w5.heap.size = b1 at Y6 L0
  clear g iC Y c0 c1
  have d0 : w6.cell? ⟨B1, 0, none⟩ = some (.int .i64 f) := Y6.out.2.2.1.box.cell 0 rfl
  have d1 : w6.cell? ⟨B1, 1, none⟩ = some (.slice p1 n q1) := Y6.out.2.2.1.box.cell 1 rfl
  go_wp2_with fail
  refine (D'.out _ _ Y6.out.2.2.1.at).mono ?_
  rintro e wD ⟨⟨p2, q2, rfl, iD⟩, g⟩
  go_upto_region 8 with fail
  have Z : Hid (FsT w f a n c X X xf xn b0 B0 B0 p0 q0 w6.heap.size wD.heap.size wD.heap.size p2 q2 (wD.alloc (.cells #[.int .i64 xf, .slice p2 xn q2] 26)) ∧ FsH (w.heap.size + 1) b1 B1 B1 #[.int .i64 f, .slice p1 n q1] r (wD.alloc (.cells #[.int .i64 xf, .slice p2 xn q2] 26)) ∧ (B0 < b1 ∧ B1 ≤ w6.heap.size ∧ B1 ≤ wD.heap.size)) := by
    have b2 : Below w6.heap.size w6 (wD.alloc (.cells #[.int .i64 xf, .slice p2 xn q2] 26)) := g.alloc g.size _
    have h1 := FsH.new (s := w.heap.size + 1) iD g.size (Nat.le_refl _) Y6.out.1.lt rfl
    have h2 := g.size
    have h3 := Y6.out.2.2.2
    have h4 := L0.out
    exact ⟨⟨Y6.out.1.below b2, Y6.out.2.1.below b2, h1, by omega, by omega⟩, Y6.out.2.2.1.below b2, by omega⟩
  generalize wD.alloc (.cells #[.int .i64 xf, .slice p2 xn q2] 26) = w7 at Z ⊢
  generalize wD.heap.size = B2 at Z ⊢
  generalize w6.heap.size = b2 at Z
  clear g iD Y6 L0 d0 d1
  have Rel : Hid (B0 < b1 ∧ B1 ≤ b2 ∧ B1 ≤ B2) := Z.out.2.2
  have u0 : w7.cell? ⟨B2, 0, none⟩ = some (.int .i64 xf) := Z.out.1.hg.box.cell 0 rfl
  have u1 : w7.cell? ⟨B2, 1, none⟩ = some (.slice p2 xn q2) := Z.out.1.hg.box.cell 1 rfl
  have v0 : w7.cell? ⟨B0, 0, none⟩ = some (.int .i64 xf) := Z.out.1.h0.box.cell 0 rfl
  have v1 : w7.cell? ⟨B0, 1, none⟩ = some (.slice p0 xn q0) := Z.out.1.h0.box.cell 1 rfl
  go_wp2_with fail
  refine (EX'.out _ _ _ Z.out.1.hg.at Z.out.1.h0.at).mono ?_
  rintro e w8 ⟨rfl, g⟩
  have Z8 : Hid (FsT w f a n c X X xf xn b0 B0 B0 p0 q0 b2 B2 B2 p2 q2 w8 ∧ FsH (w.heap.size + 1) b1 B1 B1 #[.int .i64 f, .slice p1 n q1] r w8) := ⟨Z.out.1.below g, Z.out.2.1.below g⟩
  clear g Z u0 u1 v0 v1
  go_upto_region 10 with fail
  go_cut [55] (fun s wc => Hid (s = .bool false ∧ FsT w f a n c X X xf xn b0 B0 B0 p0 q0 b2 B2 B2 p2 q2 wc ∧ FsH (w.heap.size + 1) b1 B1 B1 #[.int .i64 f, .slice p1 n q1] r wc))
  case first =>
    have c0 : w8.cell? ⟨w.heap.size, 0, none⟩ = some (.int .i64 f) := Z8.out.1.bs.1.cell 0 rfl
    have c1 : w8.cell? ⟨w.heap.size, 1, none⟩ = some (.slice a n c) := Z8.out.1.bs.1.cell 1 rfl
    have d0 : w8.cell? ⟨B1, 0, none⟩ = some (.int .i64 f) := Z8.out.2.box.cell 0 rfl
    have d1 : w8.cell? ⟨B1, 1, none⟩ = some (.slice p1 n q1) := Z8.out.2.box.cell 1 rfl
    go_wp2_with fail
    go_region_law (first | (refine stepCall rfl 26 rfl #[.agg #[.int .i64 f, .slice a n c]] (by kernel_rfl) (T'.out w8.drew ((K.out _ Z8.out.1.bs).drew)) ?_; rintro e wE ⟨⟨pE, qE, rfl, iE⟩, q⟩; have q' : Below w8.heap.size w8 wE := (Below.refl _ w8).drew.trans q; have ZE : Hid ((FsT w f a n c X X xf xn b0 B0 B0 p0 q0 b2 B2 B2 p2 q2 wE ∧ FsH (w.heap.size + 1) b1 B1 B1 #[.int .i64 f, .slice p1 n q1] r wE) ∧ FsAt wE (.agg #[.int .i64 f, .slice pE n qE]) r) := ⟨⟨Z8.out.1.below q', Z8.out.2.below q'⟩, iE.at⟩; have dE0 : wE.cell? ⟨B1, 0, none⟩ = some (.int .i64 f) := ZE.out.1.2.box.cell 0 rfl; have dE1 : wE.cell? ⟨B1, 1, none⟩ = some (.slice p1 n q1) := ZE.out.1.2.box.cell 1 rfl; clear q q' iE; refine ⟨_, rfl, ?_⟩) | (refine stepCall rfl 27 rfl #[.agg #[.int .i64 f, .slice p1 n q1], .agg #[.int .i64 f, .slice pE n qE]] (by kernel_rfl) (ER'.out _ _ wE ZE.out.1.2.at ZE.out.2) ?_; rintro e wF ⟨rfl, q⟩; have ZF : Hid (FsT w f a n c X X xf xn b0 B0 B0 p0 q0 b2 B2 B2 p2 q2 wF ∧ FsH (w.heap.size + 1) b1 B1 B1 #[.int .i64 f, .slice p1 n q1] r wF) := ⟨ZE.out.1.1.below q, ZE.out.1.2.below q⟩; clear q; refine ⟨_, rfl, ?_⟩))
    all_goals (go_wp2_with fail; go_meet; exact ⟨rfl, ZF.out⟩)
  case rest =>
  obtain ⟨rfl, hP⟩ := hcut.out
  obtain ⟨wF, rfl⟩ : ∃ wF, wF = wc := ⟨_, rfl⟩
  have ZF : Hid (FsT w f a n c X X xf xn b0 B0 B0 p0 q0 b2 B2 B2 p2 q2 wF ∧ FsH (w.heap.size + 1) b1 B1 B1 #[.int .i64 f, .slice p1 n q1] r wF) := hP
  clear hcut hP Z8
  have d0 : wF.cell? ⟨B1, 0, none⟩ = some (.int .i64 f) := ZF.out.2.box.cell 0 rfl
  have d1 : wF.cell? ⟨B1, 1, none⟩ = some (.slice p1 n q1) := ZF.out.2.box.cell 1 rfl
  go_wp2_with fail
  refine (MR'.out b1 B1 _ _ ZF.out.2.mem).mono ?_
  rintro e wG ⟨rfl, q⟩
  have ZG : Hid (FsT w f a n c X X xf xn b0 B0 B0 p0 q0 b2 B2 B2 p2 q2 wG) := by
    obtain ⟨r1, r3, r4⟩ := Rel.out
    exact ZF.out.1.other q ZF.out.2.sb (by omega) r1 r3 r4
  clear q ZF d0 d1 Rel
  go_upto_region 14 with fail
  have u0 : wG.cell? ⟨B2, 0, none⟩ = some (.int .i64 xf) := ZG.out.hg.box.cell 0 rfl
  have u1 : wG.cell? ⟨B2, 1, none⟩ = some (.slice p2 xn q2) := ZG.out.hg.box.cell 1 rfl
  have v0 : wG.cell? ⟨B0, 0, none⟩ = some (.int .i64 xf) := ZG.out.h0.box.cell 0 rfl
  have v1 : wG.cell? ⟨B0, 1, none⟩ = some (.slice p0 xn q0) := ZG.out.h0.box.cell 1 rfl
  go_wp2_with fail
  refine (EX'.out _ _ _ ZG.out.hg.at ZG.out.h0.at).mono ?_
  rintro e wH ⟨rfl, q⟩
  have ZH : Hid (FsT w f a n c X X xf xn b0 B0 B0 p0 q0 b2 B2 B2 p2 q2 wH) := ZG.out.below q
  clear q ZG u0 u1 v0 v1
  go_upto_region 17 with fail
  have u0 : wH.cell? ⟨B2, 0, none⟩ = some (.int .i64 xf) := ZH.out.hg.box.cell 0 rfl
  have u1 : wH.cell? ⟨B2, 1, none⟩ = some (.slice p2 xn q2) := ZH.out.hg.box.cell 1 rfl
  go_wp2_with fail
  refine (MX'.out b2 B2 _ _ ZH.out.hg.mem).mono ?_
  rintro e wJ ⟨rfl, m, q⟩
  have ZJ : Hid (FsT w f a n c X Xm xf xn b0 B0 B0 p0 q0 b2 B2 B2 p2 q2 wJ) := ZH.out.mark q m
  clear q m ZH u0 u1
  go_upto_region 19 with fail
  have u0 : wJ.cell? ⟨B2, 0, none⟩ = some (.int .i64 xf) := ZJ.out.hg.box.cell 0 rfl
  have u1 : wJ.cell? ⟨B2, 1, none⟩ = some (.slice p2 xn q2) := ZJ.out.hg.box.cell 1 rfl
  go_wp2_with fail
  refine (HX'.out _ _ ZJ.out.hg.at).mono ?_
  rintro e wK ⟨rfl, q⟩
  have ZK : Hid (FsT w f a n c X Xm xf xn b0 B0 B0 p0 q0 b2 B2 B2 p2 q2 wK) := ZJ.out.below q
  clear q ZJ u0 u1
  go_upto_region 24 with fail
  have c0 : wK.cell? ⟨w.heap.size, 0, none⟩ = some (.int .i64 f) := ZK.out.bs.1.cell 0 rfl
  have c1 : wK.cell? ⟨w.heap.size, 1, none⟩ = some (.slice a n c) := ZK.out.bs.1.cell 1 rfl
  go_wp2_with fail
  refine (T'.out _ (K.out _ ZK.out.bs)).mono ?_
  rintro e wL ⟨⟨pL, qL, rfl, iL⟩, q⟩
  have ZL : Hid (FsT w f a n c X Xm xf xn b0 B0 B0 p0 q0 b2 B2 B2 p2 q2 wL ∧ FsAt wL (.agg #[.int .i64 f, .slice pL n qL]) r) := ⟨ZK.out.below q, iL.at⟩
  clear q iL ZK c0 c1
  go_wp2_with fail
  refine (D'.out _ _ ZL.out.2).mono ?_
  rintro e wM ⟨⟨p3, q3, rfl, iM⟩, q⟩
  go_upto_region 25 with fail
  have ZN : Hid (FsT w f a n c X Xm xf xn b0 B0 B0 p0 q0 b2 B2 B2 p2 q2 (wM.alloc (.cells #[.int .i64 xf, .slice p3 xn q3] 26)) ∧ FsAt (wM.alloc (.cells #[.int .i64 xf, .slice p3 xn q3] 26)) (.agg #[.int .i64 xf, .slice p3 xn q3]) X ∧ Boxed (wM.alloc (.cells #[.int .i64 xf, .slice p3 xn q3] 26)) wM.heap.size #[.int .i64 xf, .slice p3 xn q3] 26) := by
    have b1 : Below wM.heap.size wM (wM.alloc (.cells #[.int .i64 xf, .slice p3 xn q3] 26)) := (Below.refl _ _).alloc (Nat.le_refl _) _
    exact ⟨(ZL.out.1.below q).below b1, iM.at.below b1, Boxed.new _ _ _⟩
  generalize wM.alloc (.cells #[.int .i64 xf, .slice p3 xn q3] 26) = wN at ZN ⊢
  generalize wM.heap.size = B3 at ZN ⊢
  clear q iM ZL
  have u0 : wN.cell? ⟨B3, 0, none⟩ = some (.int .i64 xf) := ZN.out.2.2.cell 0 rfl
  have u1 : wN.cell? ⟨B3, 1, none⟩ = some (.slice p3 xn q3) := ZN.out.2.2.cell 1 rfl
  have v0 : wN.cell? ⟨B0, 0, none⟩ = some (.int .i64 xf) := ZN.out.1.h0.box.cell 0 rfl
  have v1 : wN.cell? ⟨B0, 1, none⟩ = some (.slice p0 xn q0) := ZN.out.1.h0.box.cell 1 rfl
  go_wp2_with fail
  refine (EX'.out _ _ _ ZN.out.2.1 ZN.out.1.h0.at).mono ?_
  rintro e wO ⟨rfl, q⟩
  have ZO : Hid (FsT w f a n c X Xm xf xn b0 B0 B0 p0 q0 b2 B2 B2 p2 q2 wO) := ZN.out.1.below q
  clear q ZN u0 u1 v0 v1
  go_upto_region 28 with fail
  have u0 : wO.cell? ⟨B2, 0, none⟩ = some (.int .i64 xf) := ZO.out.hg.box.cell 0 rfl
  have u1 : wO.cell? ⟨B2, 1, none⟩ = some (.slice p2 xn q2) := ZO.out.hg.box.cell 1 rfl
  go_wp2_with fail
  refine (HX'.out _ _ ZO.out.hg.at).mono ?_
  rintro e wQ ⟨rfl, q⟩
  have ZQ : Hid (Below w.heap.size w wQ) := (ZO.out.below q).bs.bel
  clear q ZO u0 u1
  go_wp2
  go_ret
  exact ⟨rfl, ZQ.out⟩
end Go.Proofs.Ytllmkolchgmjoaa

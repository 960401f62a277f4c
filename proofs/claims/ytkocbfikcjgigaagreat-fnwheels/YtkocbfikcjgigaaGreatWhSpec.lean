/-
  The walk of the model's WheelOk. By the verifier, by program.
-/
import Derived.Test.YtkocbfikcjgigaaGreatM5WhFn
import Derived.Test.YtkocbfikcjgigaaGreatDuSpec
import Derived.Test.YtkocbfikcjgigaaGreatBoxed
namespace Go.Proofs.YtkocbfikcjgigaaGreat
open Go.RowKit

set_option maxHeartbeats 6400000 in
set_option maxRecDepth 100000 in
theorem specWheelOk (r : Wh) (a : Option Addr) (c : Nat) (w : World) (hB : r.big ≤ 1048576) (h : Hid (DzAt w a r.slots)) :
    Calls Tryz.prog 16 #[r.val a c] w fun e w' => e = .returned (.bool r.ok) ∧ Below w.heap.size w w' := by
  obtain ⟨hT, -, hin⟩ := Wh.small hB
  have Hin : Hid (∀ k, k < r.slots.length → (dzAt r.slots k).length ≤ 1048576) := hin
  obtain ⟨R, hR⟩ : ∃ R, r.ok = R := ⟨_, rfl⟩
  rw [hR]
  have HR : Hid (r.ok = R) := hR
  obtain ⟨len, hlen⟩ : ∃ n, r.slots.length = n := ⟨_, rfl⟩
  obtain ⟨f, hf⟩ : ∃ f, r.step = f := ⟨_, rfl⟩
  unfold Wh.val
  rw [hlen] at hT ⊢
  rw [hf]
  have Hlen : Hid (r.slots.length = len) := hlen
  have Hf : Hid (r.step = f) := hf
  have A1 := fun w => specIn f 1 1000 w
  clear hlen hB hR hf hin
  obtain ⟨W, hW⟩ : ∃ W, W = w.alloc (.cells #[.int .i64 f, .slice a len c] 29) := ⟨_, rfl⟩
  have X : Hid (DzAt W a r.slots ∧ Below w.heap.size w W ∧ Boxed W w.heap.size #[.int .i64 f, .slice a len c] 29 ∧ w.heap.size < W.heap.size) := by
    rw [hW]
    exact ⟨h.out.alloc _, (Below.refl _ _).alloc (Nat.le_refl _) _, Boxed.new _ _ _, by simp⟩
  have HW : Hid (W = _) := hW
  clear hW h
  have No0 : Hid (¬ ((1 ≤ f ∧ f ≤ 1000) ∧ len = 8) → R = false) := fun hn => by
    rw [← HR.out]
    cases hq : r.ok with
    | false => rfl
    | true => exact absurd (by rw [← Hf.out, ← Hlen.out]; exact (Wh.ok_iff.1 hq).1) hn
  by_cases h1 : inB 1 1000 f = true
  case neg =>
    have h1' : inB 1 1000 f = false := by simpa using h1
    rw [h1'] at A1
    have er : R = false := No0.out fun g => h1 (inB_true.2 g.1)
    subst er
    have A1' : Hid _ := A1
    clear A1 h1 h1'
    go_enter Tryz.func16, Tryz.ntmps16
    go_wp2_with fail
    refine (A1'.out _).mono ?_
    rintro e w' ⟨rfl, rfl⟩
    go_wp2
    go_ret
    exact ⟨rfl, by rw [← HW.out]; exact X.out.2.1⟩
  rw [h1] at A1
  have A1' : Hid _ := A1
  have hf := inB_true.1 h1
  clear A1 h1
  by_cases h2 : len = 8
  case neg =>
    have er : R = false := No0.out fun g => h2 g.2
    subst er
    have h3' : ¬ (len : Int) = 8 := by omega
    go_enter Tryz.func16, Tryz.ntmps16
    go_wp2_with fail
    refine (A1'.out _).mono ?_
    rintro e w' ⟨rfl, rfl⟩
    go_wp2
    go_ret
    exact ⟨rfl, by rw [← HW.out]; exact X.out.2.1⟩
  subst h2
  have Yes : Hid (dzSum r.slots 8 ≤ 60 → (∀ i, i < 8 → ∀ k, k < (dzAt r.slots i).length → whGood f i (dzAt r.slots i) k = true) → R = true) := fun g1 g2 => by
    rw [← HR.out]
    refine Wh.ok_iff.2 ⟨⟨by rw [Hf.out]; exact hf, Hlen.out⟩, g1, ?_⟩
    rw [Hf.out]
    exact g2
  have No : Hid (∀ i k, i < 8 → k < (dzAt r.slots i).length → whGood f i (dzAt r.slots i) k = false → R = false) := fun i k hi hk hn => by
    rw [← HR.out]
    cases hq : r.ok with
    | false => rfl
    | true =>
      have := (Wh.ok_iff.1 hq).2.2 i hi k hk
      rw [Hf.out, hn] at this
      cases this
  have No6 : Hid (∀ i, i ≤ 8 → 60 < dzSum r.slots i → R = false) := fun i hi hn => by
    rw [← HR.out]
    cases hq : r.ok with
    | false => rfl
    | true =>
      have g1 := (Wh.ok_iff.1 hq).2.1
      have g2 := dzSum_mono (ls := r.slots) hi (by rw [Hlen.out]; omega)
      omega
  have fp : 0 < f := by omega
  have fl : f ≤ 1000 := by omega
  have fz : ¬ f = 0 := by omega
  clear hf HR No0
  go_enter Tryz.func16, Tryz.ntmps16
  go_wp2_with fail
  refine (A1'.out _).mono ?_
  rintro e w' ⟨rfl, rfl⟩
  go_wp2
  rw [← HW.out]
  clear A1'
  go_loopw [3, 4, 5, 6] (fun n i _ _ wr => ∃ k : Nat, k ≤ 8 ∧ i = .int .i64 k ∧ n = .int .i64 (dzSum r.slots k : Nat) ∧ Hid (dzSum r.slots k ≤ 60 ∧ (∀ i, i < k → ∀ j, j < (dzAt r.slots i).length → whGood f i (dzAt r.slots i) j = true) ∧ Below W.heap.size W wr)) (fun _ i _ _ _ => 8 - (intOf i).toNat)
  case atStart => exact ⟨0, Nat.zero_le _, rfl, by rw [dzSum_zero]; rfl, by rw [dzSum_zero]; omega, fun i hi => by omega, Below.refl _ _⟩
  case round =>
    obtain ⟨k, hk, rfl, rfl, HK⟩ := hrel
    obtain ⟨wo, rfl⟩ : ∃ wo, wo = wr := ⟨_, rfl⟩
    by_cases hlt : k < 8
    case neg =>
      obtain rfl : k = 8 := by omega
      have er := Yes.out HK.out.1 HK.out.2.1
      subst er
      go_wp2
      go_ret
      exact ⟨rfl, X.out.2.1.trans (HK.out.2.2.mono X.out.2.1.size)⟩
    have hkl : k < r.slots.length := by rw [Hlen.out]; exact hlt
    obtain ⟨b, off, ak, ck, ha, hb, hc, -, -⟩ := X.out.1 k hkl
    subst ha
    have HC : Hid (∀ wx, Below W.heap.size W wx → wx.cell? ⟨b, off + k, none⟩ = some (.slice ak (dzAt r.slots k).length ck) ∧ DusAt wx ak (dzAt r.slots k) ∧ wx.cell? ⟨w.heap.size, 1, none⟩ = some (.slice (some ⟨b, off, none⟩) 8 c) ∧ wx.cell? ⟨w.heap.size, 0, none⟩ = some (.int .i64 f)) := fun wx g => by
      obtain ⟨b', off', ak', ck', ha', hb', hc1, hr1, -⟩ := X.out.1 k hkl
      cases ha'
      rw [hc1] at hc
      cases hc
      exact ⟨by rw [g.cell (p := ⟨b, off + k, none⟩) hb]; exact hc1, hr1.below g, (X.out.2.2.1.below X.out.2.2.2 g).cell 1 rfl, (X.out.2.2.1.below X.out.2.2.2 g).cell 0 rfl⟩
    have hsu := dzSum_succ hkl
    have hn1 := Hin.out k hkl
    have hs60 := HK.out.1
    have h6 := No6.out (k + 1) (by omega)
    obtain ⟨hc', -, cb, cf⟩ := HC.out wo HK.out.2.2
    obtain ⟨n, hnl⟩ : ∃ n, (dzAt r.slots k).length = n := ⟨_, rfl⟩
    obtain ⟨sm, hsm⟩ : ∃ n, dzSum r.slots k = n := ⟨_, rfl⟩
    rw [hnl] at hc' HC hn1 hsu
    rw [hsm] at hsu hs60 ⊢
    rw [hsu] at h6
    have Hnl : Hid ((dzAt r.slots k).length = n) := hnl
    have Hsu : Hid (dzSum r.slots (k + 1) = sm + n) := hsu
    clear hnl hsu hc hsm
    have hk8 : (k : Int) < 8 := by omega
    have wr1 : IntKind.i64.wrap ((sm : Int) + (n : Int)) = ((sm + n : Nat) : Int) := by rw [IntKind.wrap_i64]; omega
    by_cases h60 : 60 < sm + n
    · have er := h6 h60
      subst er
      have h60' : (60 : Int) < ((sm + n : Nat) : Int) := by omega
      generalize sm + n = t at wr1 h60' h60
      go_wp2
      go_ret
      exact ⟨rfl, X.out.2.1.trans (HK.out.2.2.mono X.out.2.1.size)⟩
    have h60' : ¬ (60 : Int) < ((sm + n : Nat) : Int) := by omega
    have Hn6 : Hid (sm + n ≤ 60) := by show sm + n ≤ 60; omega
    clear h6
    obtain ⟨t, ht⟩ : ∃ t, sm + n = t := ⟨_, rfl⟩
    rw [ht] at wr1 h60' h60 Hsu Hn6
    have nn : n ≤ 60 := by omega
    clear ht
    go_wp2
    clear hc' cb cf wr1 h60'
    go_loopw [5, 6] (fun j _ wr => ∃ q : Nat, q ≤ n ∧ j = .int .i64 q ∧ Hid ((∀ j, j < q → whGood f k (dzAt r.slots k) j = true) ∧ Below W.heap.size W wr)) (fun j _ _ => n - (intOf j).toNat)
    case atStart => exact ⟨0, Nat.zero_le _, rfl, fun j hj => by omega, HK.out.2.2⟩
    case round =>
      obtain ⟨q, hq, rfl, HQ⟩ := hrel
      obtain ⟨wi, rfl⟩ : ∃ wi, wi = wr := ⟨_, rfl⟩
      obtain ⟨ce, cr, cb, cf⟩ := HC.out _ HQ.out.2
      by_cases hql : q < n
      case neg =>
        obtain rfl : q = n := by omega
        have G : Hid (∀ i, i < k + 1 → ∀ j, j < (dzAt r.slots i).length → whGood f i (dzAt r.slots i) j = true) := fun i hi j hj => by
          by_cases e : i = k
          · subst e
            exact HQ.out.1 j (by rw [← Hnl.out]; exact hj)
          · exact HK.out.2.1 i (by omega) j hj
        go_wp2
        go_roundw
        case rel => exact ⟨k + 1, by omega, by go_num, by rw [Hsu.out], by rw [Hsu.out]; exact Hn6.out, G.out, HQ.out.2⟩
        case measure => simp [intOf]; omega
      have hqn : q < (dzAt r.slots k).length := by rw [Hnl.out]; exact hql
      have hqi : (q : Int) < (n : Int) := by omega
      obtain ⟨b2, off2, ha2, hb2, -⟩ := cr q hqn
      subst ha2
      obtain ⟨x0, x1⟩ := cr.cells hqn
      obtain ⟨pp, hpp⟩ : ∃ pp, q - 1 = pp := ⟨_, rfl⟩
      have hpn : pp < (dzAt r.slots k).length := by omega
      obtain ⟨V, hV⟩ : ∃ V, V = wi.alloc (.cells #[.int .i64 (duAt (dzAt r.slots k) q).time, .int .i64 (duAt (dzAt r.slots k) q).id] 33) := ⟨_, rfl⟩
      have HV : Hid (V = _) := hV
      have V1 : Hid (Boxed V wi.heap.size #[.int .i64 (duAt (dzAt r.slots k) q).time, .int .i64 (duAt (dzAt r.slots k) q).id] 33 ∧ Below wi.heap.size wi V) := by rw [hV]; exact ⟨Boxed.new _ _ _, (Below.refl _ _).alloc (Nat.le_refl _) _⟩
      have step : Hid (∀ w2, Below V.heap.size V w2 → Below W.heap.size W w2) := fun w2 p => HQ.out.2.trans ((V1.out.2.trans (p.mono V1.out.2.size)).mono HQ.out.2.size)
      have LieP : Hid (∀ p : BelW V.heap.size V, Below W.heap.size W p.w') := fun p => step.out _ p.h
      have c0 : ∀ p : BelW V.heap.size V, p.w'.cell? ⟨wi.heap.size, 0, none⟩ = some (.int .i64 (duAt (dzAt r.slots k) q).time) := fun p => (V1.out.1.below V1.out.1.under p.h).cell 0 rfl
      have c1 : ∀ p : BelW V.heap.size V, p.w'.cell? ⟨wi.heap.size, 1, none⟩ = some (.int .i64 (duAt (dzAt r.slots k) q).id) := fun p => (V1.out.1.below V1.out.1.under p.h).cell 1 rfl
      have e0 : ∀ p : BelW V.heap.size V, p.w'.cell? ⟨b2, off2 + pp * 2, none⟩ = some (.int .i64 (duAt (dzAt r.slots k) pp).time) := fun p => ((HC.out _ (LieP.out p)).2.1.cells (k := pp) hpn).1
      have e1 : ∀ p : BelW V.heap.size V, p.w'.cell? ⟨b2, off2 + pp * 2 + 1, none⟩ = some (.int .i64 (duAt (dzAt r.slots k) pp).id) := fun p => ((HC.out _ (LieP.out p)).2.1.cells (k := pp) hpn).2
      have f0 : ∀ p : BelW V.heap.size V, p.w'.cell? ⟨w.heap.size, 0, none⟩ = some (.int .i64 f) := fun p => (HC.out _ (LieP.out p)).2.2.2
      have f1 : ∀ p : BelW V.heap.size V, p.w'.cell? ⟨w.heap.size, 1, none⟩ = some (.slice (some ⟨b, off, none⟩) 8 c) := fun p => (HC.out _ (LieP.out p)).2.2.1
      have g0 : ∀ p : BelW V.heap.size V, p.w'.cell? ⟨b, off + k, none⟩ = some (.slice (some ⟨b2, off2, none⟩) n ck) := fun p => (HC.out _ (LieP.out p)).1
      have A1 := fun w => specDue (duAt (dzAt r.slots k) q) w
      have A3 := fun w => specBefore (duAt (dzAt r.slots k) pp) (duAt (dzAt r.slots k) q) w
      have Gd : Hid (whGood f k (dzAt r.slots k) q = ((duAt (dzAt r.slots k) q).ok && (decide (slot f (duAt (dzAt r.slots k) q) = (k : Int)) && !(decide (0 < q) && !decide ((duAt (dzAt r.slots k) pp).lt (duAt (dzAt r.slots k) q)))))) := by show whGood f k (dzAt r.slots k) q = _; rw [← hpp]; rfl
      have Nk := No.out k q hlt hqn
      have Yk : Hid (whGood f k (dzAt r.slots k) q = true → ∀ j, j < q + 1 → whGood f k (dzAt r.slots k) j = true) := fun hg j hj => by
        by_cases e : j = q
        · rw [e]; exact hg
        · exact HQ.out.1 j (by omega)
      have Sl : Hid (slot f (duAt (dzAt r.slots k) q) = (duAt (dzAt r.slots k) q).time / f % 8) := rfl
      have Ok : Hid ((duAt (dzAt r.slots k) q).ok = true → 0 ≤ (duAt (dzAt r.slots k) q).time ∧ (duAt (dzAt r.slots k) q).time ≤ 1099511627776) := fun g => by
        unfold Du.ok at g
        simp only [Bool.and_eq_true, inB_true] at g
        exact g.1
      generalize whGood f k (dzAt r.slots k) q = good at Gd Nk Yk
      generalize decide ((duAt (dzAt r.slots k) pp).lt (duAt (dzAt r.slots k) q)) = b3 at A3 Gd
      generalize slot f (duAt (dzAt r.slots k) q) = sl at Gd Sl
      generalize (duAt (dzAt r.slots k) q).ok = b1 at A1 Gd Ok
      generalize duAt (dzAt r.slots k) q = x at c0 c1 A1 A3 Sl Ok x0 x1 hV HV V1
      generalize duAt (dzAt r.slots k) pp = y at e0 e1 A3
      obtain ⟨xt, xi⟩ := x
      obtain ⟨yt, yi⟩ := y
      simp only [Du.val] at c0 c1 e0 e1 A1 A3 Sl Ok x0 x1 HV
      have A1' : Hid _ := A1
      have A3' : Hid _ := A3
      have HN : Hid (good = false → R = false) := Nk
      clear A1 A3 Nk HK cr LieP V1 hV
      haveI : Nonempty (BelW V.heap.size V) := ⟨⟨V, Below.refl _ _⟩⟩
      cases b1
      · skip
        have e : R = false := HN.out (by rw [Gd.out]; simp)
        subst e
        go_upto_region 14 with fail
        rw [← HV.out]
        refine region_below V.heap.size (by kernel_rfl) (by kernel_rfl) ?_
        repeat (go_big_quiet_step ((first | (go_at_call 46; with_reducible refine quiet_below (Nat.le_refl _) (A1'.out _)) | (go_at_call 47; with_reducible refine quiet_below (Nat.le_refl _) (A3'.out _)))))
        refine wpQuiet_nil ?_
        intro w2 hx
        have B2 : Hid (Below W.heap.size W w2) := step.out w2 (BelW.out hx)
        clear hx c0 c1 e0 e1 f0 f1 g0
        go_wp2
        go_ret
        exact ⟨rfl, X.out.2.1.trans (B2.out.mono X.out.2.1.size)⟩
      obtain ⟨xt0, xt1⟩ := Ok.out rfl
      obtain ⟨qd, hqd⟩ : ∃ qd, xt / f = qd := ⟨_, rfl⟩
      have Sl2 := Sl.out
      rw [hqd] at Sl2
      have qd0 : 0 ≤ qd := by rw [← hqd]; exact Int.ediv_nonneg xt0 (by omega)
      have qd1 : qd ≤ xt := by rw [← hqd]; exact Int.ediv_le_self _ xt0
      have d1 : Int.tdiv xt f = qd := by rw [Int.tdiv_eq_ediv_of_nonneg xt0]; exact hqd
      have d2 : IntKind.i64.wrap qd = qd := by rw [IntKind.wrap_i64]; omega
      have d3 : Int.tmod qd 8 = sl := by rw [Int.tmod_eq_emod_of_nonneg qd0]; exact Sl2.symm
      have d4 : IntKind.i64.wrap sl = sl := by rw [IntKind.wrap_i64]; omega
      clear Ok Sl Sl2 hqd qd0 qd1 xt0 xt1
      by_cases hsl : sl = (k : Int)
      case neg =>
        have hs' : ¬ (k : Int) = sl := fun e => hsl e.symm
        have hsd : decide (sl = (k : Int)) = false := decide_eq_false hsl
        rw [hsd] at Gd
        have hse : (sl == (k : Int)) = false := by simpa using hsl
        have hsb : (sl != (k : Int)) = true := by simpa using hsl
        have hsn : decide (¬ sl = (k : Int)) = true := decide_eq_true hsl
        have e : R = false := HN.out (by rw [Gd.out]; simp)
        subst e
        go_upto_region 14 with fail
        rw [← HV.out]
        refine region_below V.heap.size (by kernel_rfl) (by kernel_rfl) ?_
        repeat (go_big_quiet_step ((first | (go_at_call 46; with_reducible refine quiet_below (Nat.le_refl _) (A1'.out _)) | (go_at_call 47; with_reducible refine quiet_below (Nat.le_refl _) (A3'.out _)))))
        refine wpQuiet_nil ?_
        intro w2 hx
        have B2 : Hid (Below W.heap.size W w2) := step.out w2 (BelW.out hx)
        clear hx c0 c1 e0 e1 f0 f1 g0
        go_wp2
        go_ret
        exact ⟨rfl, X.out.2.1.trans (B2.out.mono X.out.2.1.size)⟩
      subst hsl
      by_cases hq0 : q = 0
      · have hk1 : ¬ (0 : Int) < (q : Int) := by omega
        have hk3 : decide ((0 : Int) < (q : Int)) = false := decide_eq_false hk1
        have hk4 : decide (0 < q) = false := decide_eq_false (by omega)
        rw [hk4] at Gd
        have G : Hid (∀ j, j < q + 1 → whGood f k (dzAt r.slots k) j = true) := Yk.out (by rw [Gd.out]; simp)
        have Hq0 : Hid (q = 0) := hq0
        clear hq0
        go_upto_region 14 with fail
        rw [← HV.out]
        refine region_below V.heap.size (by kernel_rfl) (by kernel_rfl) ?_
        repeat (go_big_quiet_step ((first | (go_at_call 46; with_reducible refine quiet_below (Nat.le_refl _) (A1'.out _)) | (go_at_call 47; with_reducible refine quiet_below (Nat.le_refl _) (A3'.out _)))))
        refine wpQuiet_nil ?_
        intro w2 hx
        have B2 : Hid (Below W.heap.size W w2) := step.out w2 (BelW.out hx)
        clear hx c0 c1 e0 e1 f0 f1 g0
        go_wp2
        go_roundw
        case rel => exact ⟨q + 1, by omega, by go_num, G.out, B2.out⟩
        case measure => simp [intOf]; omega
      have hk1 : (0 : Int) < (q : Int) := by omega
      have hk2 : 0 < q := by omega
      rw [decide_eq_true hk2] at Gd
      have kw1 : IntKind.i64.wrap ((q : Int) - 1) = (pp : Int) := by rw [IntKind.wrap_i64]; omega
      have kp : (pp : Int) < (n : Int) := by omega
      have Gd' : Hid (good = b3) := by show good = b3; rw [Gd.out]; cases b3 <;> simp
      clear hpp
      cases b3
      · skip
        have e : R = false := HN.out Gd'.out
        subst e
        go_upto_region 14 with fail
        rw [← HV.out]
        refine region_below V.heap.size (by kernel_rfl) (by kernel_rfl) ?_
        repeat (go_big_quiet_step ((first | (go_at_call 46; with_reducible refine quiet_below (Nat.le_refl _) (A1'.out _)) | (go_at_call 47; with_reducible refine quiet_below (Nat.le_refl _) (A3'.out _)))))
        refine wpQuiet_nil ?_
        intro w2 hx
        have B2 : Hid (Below W.heap.size W w2) := step.out w2 (BelW.out hx)
        clear hx c0 c1 e0 e1 f0 f1 g0
        go_wp2
        go_ret
        exact ⟨rfl, X.out.2.1.trans (B2.out.mono X.out.2.1.size)⟩
      · have G : Hid (∀ j, j < q + 1 → whGood f k (dzAt r.slots k) j = true) := Yk.out Gd'.out
        go_upto_region 14 with fail
        rw [← HV.out]
        refine region_below V.heap.size (by kernel_rfl) (by kernel_rfl) ?_
        repeat (go_big_quiet_step ((first | (go_at_call 46; with_reducible refine quiet_below (Nat.le_refl _) (A1'.out _)) | (go_at_call 47; with_reducible refine quiet_below (Nat.le_refl _) (A3'.out _)))))
        refine wpQuiet_nil ?_
        intro w2 hx
        have B2 : Hid (Below W.heap.size W w2) := step.out w2 (BelW.out hx)
        clear hx c0 c1 e0 e1 f0 f1 g0
        go_wp2
        go_roundw
        case rel => exact ⟨q + 1, by omega, by go_num, G.out, B2.out⟩
        case measure => simp [intOf]; omega
end Go.Proofs.YtkocbfikcjgigaaGreat

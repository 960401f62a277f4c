/-
  The walks of the model's dues that only read: which are right, which is ahead, which is there; which heaps are right. By the verifier.
-/
import Derived.Test.YtkocbfikcjgigaaGreatM1DuFn
import Derived.Test.YtkocbfikcjgigaaGreatQuiet
import Derived.Test.YtkocbfikcjgigaaGreatBoxed
import Derived.BigQuiet
import Derived.WalkKit
import Derived.WalkSpells
import Derived.WalkLawsBesides
import Derived.RegionTactic
import Derived.Deep.RegionLaw
import Derived.Deep.CutRange
namespace Go.Proofs.YtkocbfikcjgigaaGreat
open Go.RowKit

theorem duTime (t : Int) (w : World) :
    Calls Tryz.prog 70 #[.int .i64 t] w fun e w' => e = .returned (.bool (inB 0 1099511627776 t)) ∧ w' = w := by
  go_enter Tryz.func70, Tryz.ntmps70
  go_wp2_with (go_at_call 40; refine (specIn _ _ _ _).mono ?_; rintro e w' ⟨rfl, rfl⟩)
  go_ret
  exact ⟨rfl, rfl⟩

set_option maxHeartbeats 1600000 in
theorem specDue (d : Du) (w : World) :
    Calls Tryz.prog 46 #[d.val] w fun e w' => e = .returned (.bool d.ok) ∧ Below w.heap.size w w' := by
  have Hok : Hid (d.ok = (inB 0 1099511627776 d.time && inB 1 1000000 d.id)) := rfl
  obtain ⟨t, i⟩ := d
  generalize Du.ok _ = ok at Hok ⊢
  simp only [Du.val] at Hok ⊢
  have A1 := fun w => duTime t w
  have A2 := fun w => specIn i 1 1000000 w
  generalize inB 0 1099511627776 t = b1 at A1 Hok
  generalize inB 1 1000000 i = b2 at A2 Hok
  have A1' : Hid _ := A1
  have A2' : Hid _ := A2
  clear A1 A2
  have B : Hid (Below w.heap.size w (w.alloc (.cells #[.int .i64 t, .int .i64 i] 33))) := (Below.refl _ _).alloc (Nat.le_refl _) _
  go_enter Tryz.func46, Tryz.ntmps46
  go_wp2_with fail
  refine (A1'.out _).mono ?_
  rintro e w' ⟨rfl, rfl⟩
  cases b1
  · go_wp2
    go_ret
    exact ⟨ret_bool (by rw [Hok.out]; rfl), B.out⟩
  go_wp2_with fail
  refine (A2'.out _).mono ?_
  rintro e w' ⟨rfl, rfl⟩
  go_wp2
  go_ret
  exact ⟨ret_bool (by rw [Hok.out]; rfl), B.out⟩

set_option maxHeartbeats 1600000 in
theorem specBefore (x y : Du) (w : World) :
    Calls Tryz.prog 47 #[x.val, y.val] w fun e w' => e = .returned (.bool (decide (x.lt y))) ∧ Below w.heap.size w w' := by
  obtain ⟨t, i⟩ := x
  obtain ⟨s, j⟩ := y
  obtain ⟨ok, hk⟩ : ∃ ok, ok = decide (Du.lt ⟨t, i⟩ ⟨s, j⟩) := ⟨_, rfl⟩
  rw [← hk]
  have Hok : Hid (ok = decide (t < s ∨ t = s ∧ i < j)) := hk
  clear hk
  simp only [Du.val]
  have B : Hid (Below w.heap.size w ((w.alloc (.cells #[.int .i64 t, .int .i64 i] 33)).alloc (.cells #[.int .i64 s, .int .i64 j] 33))) := ((Below.refl _ _).alloc (Nat.le_refl _) _).alloc (by simp) _
  by_cases h1 : t < s
  · go_enter Tryz.func47, Tryz.ntmps47
    go_wp2
    go_ret
    exact ⟨ret_bool (by rw [Hok.out]; first | exact (decide_eq_true (.inl h1)).symm | simp [h1]), B.out⟩
  have h1' : decide (t < s) = false := decide_eq_false h1
  by_cases h2 : t = s
  · subst h2
    by_cases h3 : i < j
    · go_enter Tryz.func47, Tryz.ntmps47
      go_wp2
      go_ret
      exact ⟨ret_bool (by rw [Hok.out]; simp [h3]), B.out⟩
    · have h3' : decide (i < j) = false := decide_eq_false h3
      go_enter Tryz.func47, Tryz.ntmps47
      go_wp2
      go_ret
      exact ⟨ret_bool (by rw [Hok.out]; exact (decide_eq_false (by omega)).symm), B.out⟩
  · have h2' : (t == s) = false := by simpa using h2
    go_enter Tryz.func47, Tryz.ntmps47
    go_wp2
    go_ret
    exact ⟨ret_bool (by rw [Hok.out]; exact (decide_eq_false (by omega)).symm), B.out⟩

set_option maxHeartbeats 1600000 in
set_option maxRecDepth 100000 in
theorem specDuHas (a : Option Addr) (cap : Nat) (l : List Du) (d : Du) (w : World) (hT : l.length ≤ 1048576) (h : Hid (DusAt w a l)) :
    Calls Tryz.prog 49 #[.slice a l.length cap, d.val] w fun e w' => e = .returned (.bool (duHas l d)) ∧ Below w.heap.size w w' := by
  obtain ⟨R, hR⟩ : ∃ R, duHas l d = R := ⟨_, rfl⟩
  have Yes : Hid (∀ k, k < l.length → duAt l k = d → R = true) := fun k hk e => by rw [← hR]; exact duHas_at.2 ⟨k, hk, e⟩
  have No : Hid ((∀ k, k < l.length → duAt l k ≠ d) → R = false) := fun hn => by
    rw [← hR]
    cases hq : duHas l d with
    | false => rfl
    | true =>
      obtain ⟨j, hj, e⟩ := duHas_at.1 hq
      exact absurd e (hn j hj)
  rw [hR]
  clear hR
  obtain ⟨len, hlen⟩ : ∃ n, l.length = n := ⟨_, rfl⟩
  rw [hlen] at hT Yes No ⊢
  have Hlen : Hid (l.length = len) := hlen
  clear hlen
  obtain ⟨t, i⟩ := d
  simp only [Du.val] at Yes No ⊢
  have X : Hid (DusAt (w.alloc (.cells #[.int .i64 t, .int .i64 i] 33)) a l ∧ Boxed (w.alloc (.cells #[.int .i64 t, .int .i64 i] 33)) w.heap.size #[.int .i64 t, .int .i64 i] 33 ∧ Below w.heap.size w (w.alloc (.cells #[.int .i64 t, .int .i64 i] 33))) := ⟨h.out.alloc _, Boxed.new _ _ _, (Below.refl _ _).alloc (Nat.le_refl _) _⟩
  clear h
  go_enter Tryz.func49, Tryz.ntmps49
  go_wp2
  generalize w.alloc (.cells #[.int .i64 t, .int .i64 i] 33) = W at X ⊢
  go_loopw [5] (fun s wr => ∃ k : Nat, k ≤ len ∧ s = .int .i64 k ∧ Hid ((∀ j, j < k → duAt l j ≠ ⟨t, i⟩) ∧ Below W.heap.size W wr)) (fun s _ => len - (intOf s).toNat)
  case atStart => exact ⟨0, Nat.zero_le _, rfl, fun j hj => by omega, Below.refl _ _⟩
  case round =>
    obtain ⟨k, hk, rfl, HK⟩ := hrel
    by_cases hlt : k < len
    · obtain ⟨b1, o1, ha1, hb1, -⟩ := (X.out.1.below HK.out.2) k (by rw [Hlen.out]; exact hlt)
      subst ha1
      obtain ⟨c0, c1⟩ := (X.out.1.below HK.out.2).cells (k := k) (by rw [Hlen.out]; exact hlt)
      have B9 : Hid (Boxed wr w.heap.size #[.int .i64 t, .int .i64 i] 33) := X.out.2.1.below X.out.2.1.under HK.out.2
      have d0 : wr.cell? ⟨w.heap.size, 0, none⟩ = some (.int .i64 t) := B9.out.cell 0 rfl
      have d1 : wr.cell? ⟨w.heap.size, 1, none⟩ = some (.int .i64 i) := B9.out.cell 1 rfl
      have hdl : w.heap.size < wr.heap.size := B9.out.under
      have hlt' : (k : Int) < (len : Int) := by omega
      have Yk := Yes.out k hlt
      have Nk : Hid (duAt l k ≠ ⟨t, i⟩ → (∀ j, j < k + 1 → duAt l j ≠ ⟨t, i⟩)) := fun hn j hj => by
        by_cases e : j = k
        · rw [e]; exact hn
        · exact HK.out.1 j (by omega)
      have Bn : Hid (∀ nq, Below W.heap.size W (wr.drewN nq)) := fun nq => HK.out.2.trans ⟨rfl, rfl, rfl, Nat.le_refl _, fun _ _ => rfl⟩
      have Be : Hid (∀ nq, Below w.heap.size w (wr.drewN nq)) := fun nq => X.out.2.2.trans ((Bn.out nq).mono X.out.2.2.size)
      generalize duAt l k = q at c0 c1 Yk Nk
      obtain ⟨t2, i2⟩ := q
      simp only at c0 c1
      have HY : Hid ((⟨t2, i2⟩ : Du) = ⟨t, i⟩ → R = true) := Yk
      clear Yk HK B9
      by_cases e1 : t2 = t
      · by_cases e2 : i2 = i
        · have e : R = true := HY.out (by rw [e1, e2])
          subst e e1 e2
          go_upto_region 4 with fail
          go_quiet (fail)
          go_wp2
          go_ret
          exact ⟨rfl, Be.out _⟩
        · have e2' : (i2 == i) = false := by simpa using e2
          have N2 : Hid (∀ j, j < k + 1 → duAt l j ≠ ⟨t, i⟩) := Nk.out (fun q => e2 (by injection q))
          subst e1
          go_upto_region 4 with fail
          go_quiet (fail)
          go_wp2
          go_roundw
          case rel => exact ⟨k + 1, by omega, by go_num, N2.out, Bn.out _⟩
          case measure => simp [intOf]; omega
      · have e1' : (t2 == t) = false := by simpa using e1
        have N2 : Hid (∀ j, j < k + 1 → duAt l j ≠ ⟨t, i⟩) := Nk.out (fun q => e1 (by injection q))
        go_upto_region 4 with fail
        go_quiet (fail)
        go_wp2
        go_roundw
        case rel => exact ⟨k + 1, by omega, by go_num, N2.out, Bn.out _⟩
        case measure => simp [intOf]; omega
    · obtain rfl : k = len := by omega
      have e : R = false := No.out HK.out.1
      subst e
      go_wp2
      go_ret
      exact ⟨rfl, X.out.2.2.trans (HK.out.2.mono X.out.2.2.size)⟩

theorem DusAt.take {w : World} {a : Option Addr} {l : List Du} (h : DusAt w a l) (n : Nat) : DusAt w a (l.take n) := by
  intro k hk
  rw [List.length_take] at hk
  obtain ⟨b, off, e, hb, c⟩ := h k (by omega)
  have e2 : duAt (l.take n) k = duAt l k := by unfold duAt; rw [List.getElem?_take_of_lt (by omega)]
  exact ⟨b, off, e, hb, by rw [e2]; exact c⟩

set_option maxHeartbeats 3200000 in
set_option maxRecDepth 100000 in
theorem specHeapOk (a : Option Addr) (cap : Nat) (l : List Du) (w : World) (hT : l.length ≤ 1048576) (hcap : l.length ≤ cap) (h : Hid (DusAt w a l)) :
    Calls Tryz.prog 39 #[.slice a l.length cap] w fun e w' => e = .returned (.bool (hok l)) ∧ Below w.heap.size w w' := by
  obtain ⟨R, hR⟩ : ∃ R, hok l = R := ⟨_, rfl⟩
  have Yes : Hid (l.length ≤ 60 → (∀ k, k < l.length → duGood l k = true) → R = true) := fun h1 h2 => by rw [← hR]; exact hok_iff.2 ⟨h1, h2⟩
  have No : Hid (∀ k, k < l.length → duGood l k = false → R = false) := fun k hk hn => by
    rw [← hR]
    cases hq : hok l with
    | false => rfl
    | true => rw [(hok_iff.1 hq).2 k hk] at hn; cases hn
  have No6 : Hid (60 < l.length → R = false) := fun hn => by
    rw [← hR]
    cases hq : hok l with
    | false => rfl
    | true => have := (hok_iff.1 hq).1; omega
  rw [hR]
  clear hR
  have HS := fun (k : Nat) (d : Du) (w : World) (hk : k ≤ l.length) (hh : Hid (DusAt w a (l.take k))) => specDuHas a cap (l.take k) d w (by rw [List.length_take]; omega) hh
  have HS2 : Hid (∀ (k : Nat) (d : Du) (w : World), k ≤ l.length → Hid (DusAt w a (l.take k)) → Calls Tryz.prog 49 #[.slice a k cap, d.val] w fun e w' => e = .returned (.bool (duHas (l.take k) d)) ∧ Below w.heap.size w w') := fun k d w hk hh => by
    have := HS k d w hk hh
    rwa [List.length_take, Nat.min_eq_left hk] at this
  clear HS
  obtain ⟨len, hlen⟩ : ∃ n, l.length = n := ⟨_, rfl⟩
  rw [hlen] at hT hcap Yes No No6 HS2 ⊢
  have Hlen : Hid (l.length = len) := hlen
  clear hlen
  by_cases h60 : 60 < len
  · have e : R = false := No6.out h60
    subst e
    have h60' : (60 : Int) < (len : Int) := by omega
    go_enter Tryz.func39, Tryz.ntmps39
    go_wp2
    go_ret
    exact ⟨rfl, Below.refl _ _⟩
  have h60' : ¬ (60 : Int) < (len : Int) := by omega
  go_enter Tryz.func39, Tryz.ntmps39
  go_wp2
  clear h60'
  go_loopw [3] (fun s wr => ∃ k : Nat, k ≤ len ∧ s = .int .i64 k ∧ Hid ((∀ j, j < k → duGood l j = true) ∧ Below w.heap.size w wr)) (fun s _ => len - (intOf s).toNat)
  case atStart => exact ⟨0, Nat.zero_le _, rfl, fun j hj => by omega, Below.refl _ _⟩
  case round =>
    obtain ⟨k, hk, rfl, HK⟩ := hrel
    by_cases hlt : k < len
    case neg =>
      obtain rfl : k = len := by omega
      have e : R = true := Yes.out (by omega) HK.out.1
      subst e
      go_wp2
      go_ret
      exact ⟨rfl, HK.out.2⟩
    have hlt' : (k : Int) < (len : Int) := by omega
    have Lie : Hid (∀ p : BelW wr.heap.size wr, DusAt p.w' a l) := fun p => (h.out.below HK.out.2).below p.h
    obtain ⟨b1, o1, ha1, hb1, -⟩ := (h.out.below HK.out.2) k (by rw [Hlen.out]; exact hlt)
    subst ha1
    have c0 : ∀ p : BelW wr.heap.size wr, p.w'.cell? ⟨b1, o1 + k * 2, none⟩ = some (.int .i64 (duAt l k).time) := fun p => ((Lie.out p).cells (k := k) (by rw [Hlen.out]; exact hlt)).1
    have c1 : ∀ p : BelW wr.heap.size wr, p.w'.cell? ⟨b1, o1 + k * 2 + 1, none⟩ = some (.int .i64 (duAt l k).id) := fun p => ((Lie.out p).cells (k := k) (by rw [Hlen.out]; exact hlt)).2
    obtain ⟨pp, hpp⟩ : ∃ pp, (k - 1) / 2 = pp := ⟨_, rfl⟩
    have hpk : pp < len := by omega
    have e0 : ∀ p : BelW wr.heap.size wr, p.w'.cell? ⟨b1, o1 + pp * 2, none⟩ = some (.int .i64 (duAt l pp).time) := fun p => ((Lie.out p).cells (k := pp) (by rw [Hlen.out]; exact hpk)).1
    have e1 : ∀ p : BelW wr.heap.size wr, p.w'.cell? ⟨b1, o1 + pp * 2 + 1, none⟩ = some (.int .i64 (duAt l pp).id) := fun p => ((Lie.out p).cells (k := pp) (by rw [Hlen.out]; exact hpk)).2
    have A1 := fun w => specDue (duAt l k) w
    have A2 := fun w hh => HS2.out k (duAt l k) w (by omega) hh
    have A3 := fun w => specBefore (duAt l k) (duAt l pp) w
    have Gd : Hid (duGood l k = ((duAt l k).ok && (!duHas (l.take k) (duAt l k) && !(decide (0 < k) && decide ((duAt l k).lt (duAt l pp)))))) := by show duGood l k = _; rw [← hpp]; rfl
    have Nk := No.out k hlt
    have Yk : Hid (duGood l k = true → ∀ j, j < k + 1 → duGood l j = true) := fun hg j hj => by
      by_cases e : j = k
      · rw [e]; exact hg
      · exact HK.out.1 j (by omega)
    generalize duGood l k = good at Gd Nk Yk
    generalize duHas (l.take k) (duAt l k) = b2 at A2 Gd
    generalize decide ((duAt l k).lt (duAt l pp)) = b3 at A3 Gd
    generalize (duAt l k).ok = b1' at A1 Gd
    generalize duAt l k = x at c0 c1 A1 A2 A3
    generalize duAt l pp = y at e0 e1 A3
    obtain ⟨x0, x1⟩ := x
    obtain ⟨y0, y1⟩ := y
    simp only [Du.val] at c0 c1 e0 e1 A1 A2 A3
    have A1' : Hid _ := A1
    have A2' : Hid _ := A2
    have A3' : Hid _ := A3
    have HN : Hid (good = false → R = false) := Nk
    have Tk : Hid (∀ p : BelW wr.heap.size wr, Hid (DusAt p.w' (some ⟨b1, o1, none⟩) (l.take k))) := fun p => (Lie.out p).take k
    have Bw : Hid (Below w.heap.size w wr) := HK.out.2
    have kc : k ≤ cap := by omega
    have kq : Int.tdiv ((k : Int) - 1) 2 = (pp : Int) ∨ k = 0 := by
      by_cases h0 : k = 0
      · exact .inr h0
      · left
        rw [Int.tdiv_eq_ediv_of_nonneg (by omega), ← hpp]
        omega
    clear A1 A2 A3 Nk hpp HK Lie
    haveI : Nonempty (BelW wr.heap.size wr) := ⟨⟨wr, Below.refl _ _⟩⟩
    have step : Hid (∀ w2, Below wr.heap.size wr w2 → Below w.heap.size w w2) := fun w2 q => Bw.out.trans (q.mono Bw.out.size)
    cases b1'
    · skip
      have e : R = false := HN.out (by rw [Gd.out]; rfl)
      subst e
      go_upto_region 6 with fail
      refine region_below wr.heap.size (by kernel_rfl) (by kernel_rfl) ?_
      repeat (go_big_quiet_step ((first | (go_at_call 46; with_reducible refine quiet_below (Nat.le_refl _) (A1'.out _)) | (go_at_call 49; with_reducible refine quiet_below (Nat.le_refl _) (A2'.out _ (Tk.out _))) | (go_at_call 47; with_reducible refine quiet_below (Nat.le_refl _) (A3'.out _)))))
      refine wpQuiet_nil ?_
      intro w2 hx
      have B2 : Hid (Below w.heap.size w w2) := step.out w2 (BelW.out hx)
      clear hx c0 c1 e0 e1
      go_wp2
      go_ret
      exact ⟨rfl, B2.out⟩
    cases b2
    rotate_left
    · skip
      have e : R = false := HN.out (by rw [Gd.out]; rfl)
      subst e
      go_upto_region 6 with fail
      refine region_below wr.heap.size (by kernel_rfl) (by kernel_rfl) ?_
      repeat (go_big_quiet_step ((first | (go_at_call 46; with_reducible refine quiet_below (Nat.le_refl _) (A1'.out _)) | (go_at_call 49; with_reducible refine quiet_below (Nat.le_refl _) (A2'.out _ (Tk.out _))) | (go_at_call 47; with_reducible refine quiet_below (Nat.le_refl _) (A3'.out _)))))
      refine wpQuiet_nil ?_
      intro w2 hx
      have B2 : Hid (Below w.heap.size w w2) := step.out w2 (BelW.out hx)
      clear hx c0 c1 e0 e1
      go_wp2
      go_ret
      exact ⟨rfl, B2.out⟩
    by_cases hk0 : k = 0
    · have hk1 : ¬ (0 : Int) < (k : Int) := by omega
      have hk2 : ¬ 0 < k := by omega
      have hk3 : decide ((0 : Int) < (k : Int)) = false := decide_eq_false hk1
      have hk4 : decide (0 < k) = false := decide_eq_false hk2
      rw [hk4] at Gd
      have G : Hid (∀ j, j < k + 1 → duGood l j = true) := Yk.out (by rw [Gd.out]; rfl)
      have Hk0 : Hid (k = 0) := hk0
      clear hk0 kq
      go_upto_region 6 with fail
      refine region_below wr.heap.size (by kernel_rfl) (by kernel_rfl) ?_
      repeat (go_big_quiet_step ((first | (go_at_call 46; with_reducible refine quiet_below (Nat.le_refl _) (A1'.out _)) | (go_at_call 49; with_reducible refine quiet_below (Nat.le_refl _) (A2'.out _ (Tk.out _))) | (go_at_call 47; with_reducible refine quiet_below (Nat.le_refl _) (A3'.out _)))))
      refine wpQuiet_nil ?_
      intro w2 hx
      have B2 : Hid (Below w.heap.size w w2) := step.out w2 (BelW.out hx)
      clear hx c0 c1 e0 e1
      go_wp2
      go_roundw
      case rel => exact ⟨k + 1, by omega, by go_num, G.out, B2.out⟩
      case measure => simp [intOf]; omega
    have hk1 : (0 : Int) < (k : Int) := by omega
    have hk2 : 0 < k := by omega
    rw [decide_eq_true hk2] at Gd
    have kt : Int.tdiv ((k : Int) - 1) 2 = (pp : Int) := by rcases kq with q | q; exact q; omega
    have kw1 : IntKind.i64.wrap ((k : Int) - 1) = (k : Int) - 1 := by rw [IntKind.wrap_i64]; omega
    have kw2 : IntKind.i64.wrap (pp : Int) = (pp : Int) := by rw [IntKind.wrap_i64]; omega
    have kp : (pp : Int) < (len : Int) := by omega
    clear kq
    cases b3
    · skip
      have G : Hid (∀ j, j < k + 1 → duGood l j = true) := Yk.out (by rw [Gd.out]; rfl)
      go_upto_region 6 with fail
      refine region_below wr.heap.size (by kernel_rfl) (by kernel_rfl) ?_
      repeat (go_big_quiet_step ((first | (go_at_call 46; with_reducible refine quiet_below (Nat.le_refl _) (A1'.out _)) | (go_at_call 49; with_reducible refine quiet_below (Nat.le_refl _) (A2'.out _ (Tk.out _))) | (go_at_call 47; with_reducible refine quiet_below (Nat.le_refl _) (A3'.out _)))))
      refine wpQuiet_nil ?_
      intro w2 hx
      have B2 : Hid (Below w.heap.size w w2) := step.out w2 (BelW.out hx)
      clear hx c0 c1 e0 e1
      go_wp2
      go_roundw
      case rel => exact ⟨k + 1, by omega, by go_num, G.out, B2.out⟩
      case measure => simp [intOf]; omega
    · skip
      have e : R = false := HN.out (by rw [Gd.out]; rfl)
      subst e
      go_upto_region 6 with fail
      refine region_below wr.heap.size (by kernel_rfl) (by kernel_rfl) ?_
      repeat (go_big_quiet_step ((first | (go_at_call 46; with_reducible refine quiet_below (Nat.le_refl _) (A1'.out _)) | (go_at_call 49; with_reducible refine quiet_below (Nat.le_refl _) (A2'.out _ (Tk.out _))) | (go_at_call 47; with_reducible refine quiet_below (Nat.le_refl _) (A3'.out _)))))
      refine wpQuiet_nil ?_
      intro w2 hx
      have B2 : Hid (Below w.heap.size w w2) := step.out w2 (BelW.out hx)
      clear hx c0 c1 e0 e1
      go_wp2
      go_ret
      exact ⟨rfl, B2.out⟩
end Go.Proofs.YtkocbfikcjgigaaGreat
